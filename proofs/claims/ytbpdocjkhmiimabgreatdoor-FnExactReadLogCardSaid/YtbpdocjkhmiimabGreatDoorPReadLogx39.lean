/- Several texts in one, in their order. -/
import Derived.Test.YtbpdocjkhmiimabGreatDoorPReadLogx30
import Derived.Test.YtbpdocjkhmiimabGreatDoorPReadLogx23
import Derived.Deep.RegionLaw
import Derived.Deep.DrawnRows
import Derived.Test.YtbpdocjkhmiimabGreatDoorPReadLogx29
import Derived.Test.YtbpdocjkhmiimabGreatDoorPReadLogx31
import Derived.Test.YtbpdocjkhmiimabGreatDoorPReadLogx16
import Derived.Test.YtbpdocjkhmiimabGreatDoorPReadLogx38
import Derived.Deep.CutRange
/- The walk of impl.copyRec. -/
namespace Go.Proofs.YtbpdocjkhmiimabGreatDoor
open Go.RowKit
attribute [local go_sem ↓] Go.wp_at_zero Go.wp_at_succ

set_option maxHeartbeats 4000000 in
set_option maxRecDepth 100000 in
theorem copyRec_own (r : RecA) (w : World) (hr : r.reads w) (hl : r.short 1099511627776) (hc : r.aL = none → r.cL = 0) :
    Calls Tryz.prog 46 #[.agg r.cells.toArray] w fun e w' => ∃ t : RecA, e = .returned (.agg t.cells.toArray) ∧ Hid (t.v = r.v) ∧ t.own w' w.heap.size w'.heap.size ∧ Below w.heap.size w w' := by
  obtain ⟨W, hW, b0, b1, hbW, hsW⟩ := boxes2 w r.cells [.int .i64 0, .int .i64 0, .int .i64 0, .int .i64 0, .int .i64 0, .bool false, .int .i64 0, .slice none 0 0, .slice none 0 0, .bool false, .int .i64 0, .slice none 0 0, .slice none 0 0, .int .i64 0, .slice none 0 0] 59 59
  have hs0 : w.heap.size + 1 < W.heap.size := by omega
  clear hsW
  have HC1 : Hid (∀ u, Below W.heap.size W u → Calls _ _ _ _ _) := fun u hu => copySlot_own r.bf u (ReadsO.below hr.bf (hbW.trans (hu.mono (by omega)))) hl.bf.1 hl.bf.2
  have HC2 : Hid (∀ u, Below W.heap.size W u → Calls _ _ _ _ _) := fun u hu => copySlot_own r.af u (ReadsO.below hr.af (hbW.trans (hu.mono (by omega)))) hl.af.1 hl.af.2
  have HC : Hid (r.aL = none → r.cL = 0) := hc
  have HWV : Hid (∀ (t1 t2 : SlotA) (aL : Option Addr) (cL : Nat), t1.v = r.bf.v → t2.v = r.af.v → (r.with t1 t2 aL cL).v = r.v) := fun t1 t2 aL cL h1 h2 => with_v h1 h2
  have HWC : Hid (∀ (t1 t2 : SlotA) (aL : Option Addr) (cL : Nat), (r.with t1 t2 aL cL).cells = [.int .i64 r.lsn, .int .i64 r.tx, .int .i64 r.prev, .int .i64 r.kind, .int .i64 r.oid, .bool t1.v.has, .int .i64 t1.v.o.kind, .slice t1.aI t1.v.o.ints.length t1.cI, .slice t1.aR t1.v.o.refs.length t1.cR, .bool t2.v.has, .int .i64 t2.v.o.kind, .slice t2.aI t2.v.o.ints.length t2.cI, .slice t2.aR t2.v.o.refs.length t2.cR, .int .i64 r.next, .slice aL r.txs.length cL]) := fun _ _ _ _ => rfl
  simp only [RecA.cells] at b0 hW ⊢
  simp only [SlotA.cells] at HC1 HC2
  clear hc
  go_enter Tryz.func46, Tryz.ntmps46
  go_wp2_with fail
  rw [hW.out]
  clear hW
  have x5 := b0.cell 5 _ rfl
  have x6 := b0.cell 6 _ rfl
  have x7 := b0.cell 7 _ rfl
  have x8 := b0.cell 8 _ rfl
  have x9 := b0.cell 9 _ rfl
  have x10 := b0.cell 10 _ rfl
  have x11 := b0.cell 11 _ rfl
  have x12 := b0.cell 12 _ rfl
  have HBX : Hid (∀ u, Below W.heap.size W u → Box u w.heap.size _ _) := fun u hu => b0.below hu b0.lt
  have HBY : Hid (∀ u, Below W.heap.size W u → Box u (w.heap.size + 1) _ _) := fun u hu => b1.below hu b1.lt
  clear b0 b1
  go_region_law ((first
    | (go_simp; go_at_call 80; refine (HC1.out _ (Below.refl _ _).drew).mono ?_; clear HC1; rintro e u1 ⟨t1, rfl, hv1, ho1, hb1⟩; have hb1' := (Below.refl W.heap.size W).drew.trans hb1; have z9 := (HBX.out u1 hb1').cell 9 _ rfl; have z10 := (HBX.out u1 hb1').cell 10 _ rfl; have z11 := (HBX.out u1 hb1').cell 11 _ rfl; have z12 := (HBX.out u1 hb1').cell 12 _ rfl)
    | (go_simp; go_at_call 80; refine (HC2.out _ hb1').mono ?_; clear HC2; rintro e u2 ⟨t2, rfl, hv2, ho2, hb2⟩; have hb2' := hb1'.trans (hb2.mono hb1'.size); have y5 := (HBX.out u2 hb2').cell 5 _ rfl; have y6 := (HBX.out u2 hb2').cell 6 _ rfl; have y7 := (HBX.out u2 hb2').cell 7 _ rfl; have y8 := (HBX.out u2 hb2').cell 8 _ rfl; have y9 := (HBX.out u2 hb2').cell 9 _ rfl; have y10 := (HBX.out u2 hb2').cell 10 _ rfl; have y11 := (HBX.out u2 hb2').cell 11 _ rfl; have y12 := (HBX.out u2 hb2').cell 12 _ rfl; have g5 := (HBX.out u2 hb2').frozen 5; have g6 := (HBX.out u2 hb2').frozen 6; have g7 := (HBX.out u2 hb2').frozen 7; have g8 := (HBX.out u2 hb2').frozen 8; have g9 := (HBX.out u2 hb2').frozen 9; have g10 := (HBX.out u2 hb2').frozen 10; have g11 := (HBX.out u2 hb2').frozen 11; have g12 := (HBX.out u2 hb2').frozen 12)
    | fail))
  all_goals
    have hs1 := hb1'.size
    have hs2 := hb2.size
    have b02 := HBX.out u2 hb2'
    have b12 := HBY.out u2 hb2'
    have hB2 : Below w.heap.size w u2 := hbW.trans (hb2'.mono (by omega))
    have ho12 : t1.own u2 W.heap.size u1.heap.size := OwnO.below ho1 hb2
    obtain ⟨Wa, hWa, b0a, hwa, hsa⟩ := box_quad b02 5 6 7 8 (.bool t1.v.has) (.int .i64 t1.v.o.kind) (.slice t1.aI t1.v.o.ints.length t1.cI) (.slice t1.aR t1.v.o.refs.length t1.cR)
    obtain ⟨Wb, hWb, b0b, hwb, hsb⟩ := box_quad b0a 9 10 11 12 (.bool t2.v.has) (.int .i64 t2.v.o.kind) (.slice t2.aI t2.v.o.ints.length t2.cI) (.slice t2.aR t2.v.o.refs.length t2.cR)
    have hsaa := Nat.le_of_eq hsa
    have hsab := Nat.le_of_eq hsa.symm
    have hsba := Nat.le_of_eq hsb
    have hsbb := Nat.le_of_eq hsb.symm
    simp only [List.set] at b0b
    rw [hWa.out, hWb.out]
    have b1b := (b12.within hwa (by omega)).within hwb (by omega)
    have hoA := OwnO.within (OwnO.within ho12 hwa (.inr (by omega))) hwb (.inr (by omega))
    have hoB := OwnO.within (OwnO.within ho2 hwa (.inr (by omega))) hwb (.inr (by omega))
    have hB4 : Below w.heap.size w Wb := (hB2.trans (hwa.below (by omega) (by omega))).trans (hwb.below (by omega) (by omega))
    clear hWa hWb b02 b12 b0a hwa hwb hsa hsb ho1 ho2 ho12 hb1 hb2 hb1' hb2' x5 x6 x7 x8 x9 x10 x11 x12 z9 z10 z11 z12 y5 y6 y7 y8 y9 y10 y11 y12 g5 g6 g7 g8 g9 g10 g11 g12 HBX HBY hB2
    have x14 := b0b.cell 14 _ rfl
    have hA1 : ([] : List LiveV).length + r.txs.length ≤ 1099511627776 := by have := hl.txs; simp only [List.length_nil]; omega
    have hrt : ReadsL Wb r.aL r.txs := hr.txs.below hB4
    have oE := ownL_nil Wb Wb.heap.size Wb.heap.size (Nat.le_refl _)
    go_wp2_with (at_builtin; refine append_lives rfl _ _ rfl Wb.heap.size _ none 0 [] rfl oE r.aL r.cL r.txs rfl hrt HC.out hA1 (Nat.le_refl _) ?_)
    intro aL cL ys w6 hys o6 g6
    have hw6 : Within Wb.heap.size Wb.heap.size Wb w6 := Within.of_grown g6 (fun j hj => by cases hj)
    have hs6 := hw6.size
    have b06 := b0b.within hw6 (by omega)
    have b16 := b1b.within hw6 (by omega)
    have hoA6 := OwnO.within hoA hw6 (.inl (by omega))
    have hoB6 := OwnO.within hoB hw6 (.inl (by omega))
    have hB6 : Below w.heap.size w w6 := hB4.trans (hw6.below (by omega) (by omega))
    obtain rfl : ys = r.txs := hys.out.trans (List.nil_append _)
    clear hys g6 hw6 oE b0b b1b hoA hoB x14 hrt
    have HAP : Hid ((t1.blocks ++ (t2.blocks ++ (Value.slice aL r.txs.length cL).ownBlock.toList)).Nodup) := rec_apart (c := Wb.heap.size) hoA6 (OwnO.widen hoB6 (Nat.le_refl _) (show _ ≤ Wb.heap.size by omega) (by omega)) o6 (by omega)
    have x14 := b06.cell 14 _ rfl
    have f14 := b06.frozen 14
    obtain ⟨W7, hW7, b07, hw7, hs7⟩ := box_set b06 14 (.slice aL r.txs.length cL)
    have hs7a := Nat.le_of_eq hs7
    have hs7b := Nat.le_of_eq hs7.symm
    clear hs7
    simp only [List.set] at b07
    have b17 := b16.within hw7 (by omega)
    have b07' : Box W7 w.heap.size (r.with t1 t2 aL cL).cells 59 := by rw [HWC.out]; exact b07
    have hoA7 := OwnO.within hoA6 hw7 (.inr (by omega))
    have hoB7 := OwnO.within hoB6 hw7 (.inr (by omega))
    have o7 := o6.within hw7 (.inr (by omega))
    have hB7 : Below w.heap.size w W7 := hB6.trans (hw7.below (by omega) (by omega))
    clear hw7 b06 b16 hoA6 hoB6 o6
    go_upto_region 3 with fail
    rw [hW7.out]
    clear x14 f14 hW7
    obtain ⟨WF, hWF, hwF, hsF, HTF, HLF, bF⟩ := rec_out (r.with t1 t2 aL cL) _ rfl b17
    have hsFa := Nat.le_of_eq hsF
    have hsFb := Nat.le_of_eq hsF.symm
    clear hsF
    have hoF : (r.with t1 t2 aL cL).own WF w.heap.size WF.heap.size := ⟨OwnO.widen (OwnO.within hoA7 hwF (.inr (by omega))) (by omega) (by omega) (Nat.le_refl _), OwnO.widen (OwnO.within hoB7 hwF (.inr (by omega))) (by omega) (by omega) (Nat.le_refl _), (o7.within hwF (.inr (by omega))).widen (by omega) (by omega) (Nat.le_refl _), HAP.out⟩
    have hbF : Below w.heap.size w WF := hB7.trans (hwF.below (by omega) (by omega))
    have HF : Hid (_ ∧ _ ∧ _) := ⟨HWV.out t1 t2 aL cL hv1.out hv2.out, hoF, hbF⟩
    have rT : W7.rangeAt w.heap.size 0 (r.with t1 t2 aL cL).cells := Box.range [] _ [] (by simpa using b07')
    clear hoF hbF bF hwF b07 b07' b17 hoA7 hoB7 o7 HAP HWC HWV
    generalize r.with t1 t2 aL cL = TT at *
    go_wp2_with (first | (guard_target = wpList _ _ _ (Oper.mk (some 15) _ _ _ _ _ :: _) _ _; refine wpList_load_mid rfl 59 (.tmp 1) rfl w.heap.size 0 rfl TT.cells _ rT Tryz.underlying59 rfl (rec_info _) ?_) | (guard_target = wpList _ _ _ (Oper.mk none (Op.store _ (Operand.tmp 2) _) _ _ _ _ :: _) _ _; refine wpList_store_mid rfl 59 (.tmp 2) (.tmp 15) rfl (w.heap.size + 1) 0 TT.cells.toArray rfl rfl HTF.out (rec_info _) (rec_one _) ?_) | fail)
    rw [hWF.out]
    exact bodyPost_ret (v := .agg TT.cells.toArray) (results_one Tryz.results46 rfl HLF.out) rfl ⟨TT, rfl, HF.out.1, HF.out.2.1, HF.out.2.2⟩
end Go.Proofs.YtbpdocjkhmiimabGreatDoor

/- The walks of impl.copyRecs and impl.copyLog. -/
namespace Go.Proofs.YtbpdocjkhmiimabGreatDoor
open Go.RowKit

set_option maxHeartbeats 2000000 in
set_option maxRecDepth 100000 in
theorem copyRecs_any (a : Option Addr) (cap : Nat) (rs : List RecA) (w : World) (hr : ReadsRs w a rs) (hl : rs.length ≤ 1048576) (hs : ∀ r ∈ rs, r.short 1099511627776) (hcp : ∀ r ∈ rs, r.aL = none → r.cL = 0) :
    Calls Tryz.prog 28 #[.slice a rs.length cap] w fun e w' => ∃ a' c' ts, e = .returned (.slice a' ts.length c') ∧ Hid (ts.map RecA.v = rs.map RecA.v) ∧ OwnRs w' w.heap.size w'.heap.size a' c' ts ∧ Below w.heap.size w w' := by
  obtain ⟨i0, hi, hz0, hz1, hz2⟩ := info_parts Tryz.infoRec
  have HJ : Hid ((Tryz.prog.info? 59).map (·.size) = some 15) := by rw [Hid]; kernel_rfl
  rcases hr.cases with rfl | ⟨b, off, rfl, hpos, hcell⟩
  · have HO : Hid (OwnRs w w.heap.size w.heap.size none 0 []) := ownRs_nil w _ _ (Nat.le_refl _)
    go_enter Tryz.func28, Tryz.ntmps28
    go_wp2
    go_ret
    exact ⟨none, 0, [], rfl, rfl, HO.out, Below.refl _ _⟩
  · have hbB : b < w.heap.size := rangeR_lt (hcell 0 hpos).1
    have hne : ((rs.length : Int) == 0) = false := by simp; intro h; rw [h] at hpos; simp at hpos
    go_enter Tryz.func28, Tryz.ntmps28
    go_wp2_with (at_make; refine wpList_make_full _ rfl _ _ 26 rfl w.heap.size 59 i0 (.agg zeroR.cells.toArray) 15 Tryz.underlying26 hi hz0 hz1 _ _ _ _ rs.length rfl rfl rfl rfl (by rw [hz2]; omega) (by simp [maxLen]; omega) (Nat.le_refl _) ?_)
    intro w0 hown0 hgrow0
    have hb0 : Below w.heap.size w w0 := (Below.refl _ _).grown hgrow0 (Nat.le_refl _) (fun k h => by cases h)
    have ho : w0.ownsRow w.heap.size 59 15 (.slice (some ⟨w.heap.size, 0, none⟩) rs.length rs.length) rs.length (cellsRs (List.replicate rs.length zeroR)) := by
      rw [← zero_cellsRs]
      exact hown0
    have HO : Hid (OwnRs w0 w.heap.size w0.heap.size (some ⟨w.heap.size, 0, none⟩) rs.length (List.replicate rs.length zeroR)) := own_zeroRs _ ho (Nat.le_refl _) (ho.lt _ rfl).2
    clear hown0 hgrow0 ho
    go_wp2
    go_loopw [14] (fun i wr => ∃ (k : Nat) (ts : List RecA), k ≤ rs.length ∧ i = .int .i64 k ∧ Hid (Came rs ts k) ∧ Hid (OwnRs wr w.heap.size wr.heap.size (some ⟨w.heap.size, 0, none⟩) rs.length (ts ++ List.replicate (rs.length - k) zeroR)) ∧ Below w.heap.size w wr)
      (fun i _ => rs.length - (intOf i).toNat)
    case atStart => exact ⟨0, [], Nat.zero_le _, rfl, came_none rs, HO, hb0⟩
    case round =>
      obtain ⟨k, ts, hk, rfl, hc, hown, hnx⟩ := hrel
      by_cases hlt : k < rs.length
      · obtain ⟨c0, c1⟩ := hcell k hlt
        have HR : Hid (wr.rangeAt b (off + k * 15) (rs.getD k zeroR).cells) := rangeAt_below c0 hnx hbB
        have hrd : (rs.getD k zeroR).reads wr := c1.below hnx
        have hsh : (rs.getD k zeroR).short 1099511627776 := hs _ (recD_mem rs k hlt)
        have hnc := hcp _ (recD_mem rs k hlt)
        have HS : Hid (∀ q : RecA, q.v = (rs.getD k zeroR).v → Came rs (ts ++ [q]) (k + 1)) := fun q hq => hc.out.snoc hlt hq
        have HP : Hid (ts ++ List.replicate (rs.length - k) zeroR = ts ++ zeroR :: List.replicate (rs.length - (k + 1)) zeroR ∧ (ts ++ zeroR :: List.replicate (rs.length - (k + 1)) zeroR).length = rs.length ∧ ts.length = k) := by
          have e : rs.length - k = (rs.length - (k + 1)) + 1 := by omega
          refine ⟨by rw [e, List.replicate_succ], ?_, hc.out.1⟩
          have := hc.out.1
          simp
          omega
        clear c0 c1 hcell hb0 HO hs hcp
        generalize rs.getD k zeroR = z at *
        obtain ⟨W1, hW1, b1, hb1, hs1⟩ := boxes1 wr [.int .i64 0, .int .i64 0, .int .i64 0, .int .i64 0, .int .i64 0, .bool false, .int .i64 0, .slice none 0 0, .slice none 0 0, .bool false, .int .i64 0, .slice none 0 0, .slice none 0 0, .int .i64 0, .slice none 0 0] 59
        obtain ⟨W2, hW2, hw2, hs2, HT2, _, b2⟩ := rec_out z _ rfl b1
        have B2 : Below wr.heap.size wr W2 := hb1.trans (hw2.below (Nat.le_refl _) (by omega))
        have R2 : Hid (W2.rangeAt wr.heap.size 0 z.cells) := Box.range [] z.cells [] (by simpa using b2)
        have C := copyRec_own z W2 (hrd.below B2) hsh hnc
        have N2 : Below w.heap.size w W2 := hnx.trans (B2.mono hnx.size)
        have O2 : Hid _ := hown.out.below B2
        have hOz := rec_one z
        have hsw2 := B2.size
        have hszw := hnx.size
        clear hs1 hs2 b1 b2 hb1 hw2 hrd hsh hnc hown hnx B2
        go_wp2_with (first | (guard_target = wpList _ _ _ (Oper.mk (some 18) _ _ _ _ _ :: _) _ _; refine wpList_load_mid rfl 59 (.tmp 17) rfl b (off + k * 15) rfl z.cells _ HR.out Tryz.underlying59 rfl HJ.out ?_) | (guard_target = wpList _ _ _ (Oper.mk none (Op.store _ (Operand.tmp 5) _) _ _ _ _ :: _) _ _; refine wpList_store_mid rfl 59 (.tmp 5) (.tmp 18) rfl wr.heap.size 0 z.cells.toArray rfl rfl (by rw [hW1.out]; exact HT2.out) HJ.out hOz ?_) | (guard_target = wpList _ _ _ (Oper.mk (some 21) _ _ _ _ _ :: _) _ _; refine wpList_load_mid rfl 59 (.tmp 5) rfl wr.heap.size 0 rfl z.cells _ (by rw [hW1.out, hW2.out]; exact R2.out) Tryz.underlying59 rfl HJ.out ?_) | fail)
        rw [hW1.out, hW2.out]
        refine C.mono ?_
        clear C HR hW1 hW2 HT2 R2 hOz
        rintro e w3 ⟨q, rfl, hq, hqo, hb3⟩
        have hs3 := hb3.size
        have ho1 := O2.out.below hb3
        rw [HP.out.1] at ho1
        obtain ⟨W4, hW4, ho4, ht4, hs4⟩ := ho1.fill q hqo (by omega) (by omega) (Nat.le_refl _)
        rw [HP.out.2.2] at hW4
        have HT : Hid (w3.there w.heap.size (k * 15) 15) := (row_rec ho1.row rfl k (by rw [HP.out.2.1]; exact hlt)).2
        have hB4 : Below w.heap.size w W4 := (N2.trans (hb3.mono (by omega))).trans ((ht4.within (lo := w.heap.size) (hi := w.heap.size + 1) (fun j hj => by obtain rfl := List.mem_singleton.1 hj; omega)).below (Nat.le_refl _) (by omega))
        have HH : Hid (OwnRs W4 w.heap.size W4.heap.size (some ⟨w.heap.size, 0, none⟩) rs.length ((ts ++ [q]) ++ List.replicate (rs.length - (k + 1)) zeroR)) := by
          have := ho4.widen (Nat.le_refl _) (show max wr.heap.size w3.heap.size ≤ W4.heap.size by omega) (Nat.le_refl _)
          rw [List.append_assoc, List.singleton_append]
          exact this
        have HB : Hid _ := hB4
        have HC := HS.out q hq.out
        have HO1 := rec_one q
        clear ho1 ho4 ht4 hs4 hB4 hqo hb3 N2 O2 hq HS hs3 hsw2 hszw
        go_wp2_with (first | (guard_target = wpList _ _ _ (Oper.mk none (Op.store _ (Operand.tmp 23) _) _ _ _ _ :: _) _ _; refine wpList_store_mid rfl 59 (.tmp 23) (.tmp 22) rfl w.heap.size (k * 15) q.cells.toArray rfl rfl HT.out HJ.out HO1 ?_) | fail)
        rw [hW4.out]
        go_roundw
        case rel => exact ⟨k + 1, ts ++ [q], by omega, by go_num, HC, HH, HB.out⟩
        case measure => simp [intOf]; omega
      · have HE : Hid (ts.map RecA.v = rs.map RecA.v ∧ OwnRs wr w.heap.size wr.heap.size (some ⟨w.heap.size, 0, none⟩) rs.length ts ∧ ts.length = rs.length) := by
          have e : k = rs.length := by omega
          rw [e] at hown hc
          rw [Nat.sub_self, List.replicate_zero, List.append_nil] at hown
          exact ⟨hc.out.all, hown.out, hc.out.1⟩
        go_wp2
        go_ret
        exact ⟨some ⟨w.heap.size, 0, none⟩, rs.length, ts, by rw [HE.out.2.2]; rfl, HE.out.1, HE.out.2.1, hnx⟩

theorem OwnRs.caps {w : World} {lo hi : Nat} {a : Option Addr} {c : Nat} {rs : List RecA} (h : OwnRs w lo hi a c rs) : ∀ r ∈ rs, r.aL = none → r.cL = 0 := fun r hr => (h.each r hr).txs.nocap

set_option maxHeartbeats 2000000 in
set_option maxRecDepth 100000 in
theorem copyLog_any (l : LogA) (w : World) (hr : l.reads w) (hl : l.short 1048576) (hcp : ∀ r ∈ l.recs, r.aL = none → r.cL = 0) :
    Calls Tryz.prog 26 #[.agg l.cells.toArray] w fun e w' => ∃ t : LogA, e = .returned (.agg t.cells.toArray) ∧ Hid (t.v = l.v) ∧ t.own w' w.heap.size w'.heap.size ∧ Below w.heap.size w w' := by
  obtain ⟨rs, s, a, c⟩ := l
  obtain ⟨hl1, hl2⟩ := LogA.short_wide hl
  have hl0 := hl.len
  simp only [LogA.reads, LogA.cells, LogA.own] at *
  obtain ⟨W, hW, b0, b1, hbW, hsW⟩ := boxes2 w [.slice a rs.length c, .int .i64 s] [.slice none 0 0, .int .i64 0] 28 28
  have hs0 : w.heap.size + 1 < W.heap.size := by omega
  clear hsW
  have HC : Hid (∀ u, Below W.heap.size W u → Calls _ _ _ _ _) := fun u hu => copyRecs_any a c rs u (hr.below (hbW.trans (hu.mono (by omega)))) hl0 hl2 hcp
  have HBX : Hid (∀ u, Below W.heap.size W u → Box u w.heap.size _ _) := fun u hu => b0.below hu b0.lt
  have HBY : Hid (∀ u, Below W.heap.size W u → Box u (w.heap.size + 1) _ _) := fun u hu => b1.below hu b1.lt
  have x0 := b0.cell 0 _ rfl
  have x1 := b0.cell 1 _ rfl
  clear b0 b1 hr hl hl0 hl1 hl2 hcp
  go_enter Tryz.func26, Tryz.ntmps26
  go_wp2_with fail
  rw [hW.out]
  clear hW
  go_region_law ((first
    | (go_simp; go_at_call 28; refine (HC.out _ (Below.refl _ _).drew).mono ?_; clear HC; rintro e u1 ⟨a', c', ts, rfl, hv1, ho1, hb1⟩; have hb1' := (Below.refl W.heap.size W).drew.trans hb1; have z1 := (HBX.out u1 hb1').cell 1 _ rfl; have y0 := (HBY.out u1 hb1').cell 0 _ rfl; have y1 := (HBY.out u1 hb1').cell 1 _ rfl; have g0 := (HBY.out u1 hb1').frozen 0; have g1 := (HBY.out u1 hb1').frozen 1)
    | fail))
  all_goals
    have hs1 := hb1'.size
    obtain ⟨WF, hWF, bF, hwF, hsF⟩ := box2_fill (HBY.out u1 hb1') (.slice a' ts.length c') (.int .i64 s)
    have q0 := bF.cell 0 _ rfl
    have q1 := bF.cell 1 _ rfl
    have ho1' : OwnRs u1 W.heap.size u1.heap.size a' c' ts := ho1
    have hoF := (ho1'.within hwF (.inr (by omega))).widen (show w.heap.size ≤ W.heap.size by omega) (show u1.heap.size ≤ WF.heap.size by omega) (Nat.le_refl _)
    have hbF : Below w.heap.size w WF := (hbW.trans (hb1'.mono (by omega))).trans (hwF.below (by omega) (by omega))
    rw [hWF.out]
    clear hwF hsF bF ho1 ho1' z1 y0 y1 g0 g1
    go_wp2
    exact bodyPost_ret (v := .agg #[.slice a' ts.length c', .int .i64 s]) (by simp [results, Tryz.results26, go_sem, q0, q1]) rfl ⟨⟨ts, s, a', c'⟩, rfl, by simp only [Hid, LogA.v]; rw [hv1.out], hoF, hbF⟩
end Go.Proofs.YtbpdocjkhmiimabGreatDoor

/- The walk of spec.LogOk. -/
namespace Go.Proofs.YtbpdocjkhmiimabGreatDoor
open Go.RowKit

/-- A whole value loaded where a guard stands ahead of it that lets it by. -/
theorem load_if {ops : Array Oper} {rest : List Oper} {op : Oper} {a : Act} {w : World} {Q : Exit → Act → World → Prop} {P : Program} (hw : Region.wanted op (yielded ops a.tmps) = true) (ty : TypeId) (x : Operand) (ho : op.op = .load ty x)
    (b o : Nat) (hx : a.eval x = .pointer (some ⟨b, o, none⟩)) (cs : List Value) (d : TypeDesc) (hc : w.rangeAt b o cs)
    (hu : P.underlying ty = some d) (hd : d.isRow = true) (hi : (P.info? ty).map (·.size) = some cs.length)
    (h : wpList P ops Q rest (a.put op.dst (.agg cs.toArray)) w) : wpList P ops Q (op :: rest) a w :=
  wpList_step fun _ hK => by
    simp only [hw, if_true]
    exact wp_load_mid ty x ho b o hx cs d hc hu hd hi (hK _ _ h)

set_option maxHeartbeats 4000000 in
set_option maxRecDepth 100000 in
theorem specLogOk_any (l : LogA) (w : World) (hr : l.reads w) (hl : l.short 1099511627776) :
    Calls Tryz.prog 23 #[.agg l.cells.toArray] w fun e w' => e = .returned (.bool (okLog l.v)) ∧ Below w.heap.size w w' := by
  have HLEN : Hid (¬ l.recs.length ≤ 4000 → okLog l.v = false) := fun h => okLog_len (by rw [l.v_len]; exact h)
  have HSURE : Hid (inB l.sure 0 l.recs.length = false → okLog l.v = false) := fun h => okLog_sure (by rw [l.v_len]; exact h)
  have HNO : Hid (∀ k, k < l.recs.length → (((l.recs.getD k zeroR).lsn == (k + 1 : Int)) && okR (l.recs.getD k zeroR).v) = false → okLog l.v = false) := fun k hk h => okLog_no k (by rw [l.v_len]; exact hk) (by rw [okAt_v]; exact h)
  have HALL : Hid (l.recs.length ≤ 4000 → inB l.sure 0 l.recs.length = true → (∀ k, k < l.recs.length → (((l.recs.getD k zeroR).lsn == (k + 1 : Int)) && okR (l.recs.getD k zeroR).v) = true) → okLog l.v = true) := fun h0 h1 h => okLog_all (by rw [l.v_len]; exact h0) (by rw [l.v_len]; exact h1) (fun k hk => by rw [okAt_v]; exact h k (by rw [l.v_len] at hk; exact hk))
  generalize okLog l.v = R at *
  have HS : Hid (∀ k, k < l.recs.length → (l.recs.getD k zeroR).short 1099511627776) := fun k hk => hl.at k hk
  have hlen := hl.len
  obtain ⟨rs, s, a, c⟩ := l
  simp only [LogA.reads, LogA.cells] at *
  obtain ⟨W, hW, b0, hbW, hsW⟩ := boxes1 w [.slice a rs.length c, .int .i64 s] 28
  have c0 := b0.cell 0 _ rfl
  have c1 := b0.cell 1 _ rfl
  clear hl hsW
  have HC : Hid (∀ k, k < rs.length → ∃ b off, a = some ⟨b, off, none⟩ ∧ W.rangeAt b (off + k * 15) (rs.getD k zeroR).cells ∧ (rs.getD k zeroR).reads W) := fun k hk => by
    obtain ⟨b, off, ha, hc⟩ := (ReadsRs.below hr hbW) (by intro e; rw [e] at hk; simp at hk)
    exact ⟨b, off, ha, hc k hk⟩
  have HI : Hid ((Tryz.prog.info? 59).map (·.size) = some 15) := by rw [Hid]; kernel_rfl
  clear hr
  by_cases h4 : rs.length ≤ 4000
  case neg =>
    have HR : Hid (R = false) := HLEN.out h4
    clear HLEN HSURE HNO HALL
    go_enter Tryz.func23, Tryz.ntmps23
    go_wp2_with fail
    rw [hW.out]
    go_ret
    exact ⟨ret_bool HR.out.symm, hbW⟩
  case pos =>
    cases h5 : inB s 0 rs.length with
    | false =>
      have HR : Hid (R = false) := HSURE.out h5
      clear HLEN HSURE HNO HALL
      go_enter Tryz.func23, Tryz.ntmps23
      go_wp2_with fail
      rw [hW.out]
      refine (l1In_any _ _ _ W).mono ?_
      rintro e u ⟨rfl, hu⟩
      rw [hu]
      clear hu u
      go_wp2
      go_ret
      exact ⟨ret_bool HR.out.symm, hbW⟩
    | true =>
      go_enter Tryz.func23, Tryz.ntmps23
      go_wp2_with fail
      rw [hW.out]
      refine (l1In_any _ _ _ W).mono ?_
      rintro e u ⟨rfl, hu⟩
      rw [hu]
      clear hu u hW
      go_wp2_with fail
      go_loopw [3] (fun i wr => ∃ k : Nat, k ≤ rs.length ∧ i = .int .i64 k ∧ Hid (∀ j, j < k → (((rs.getD j zeroR).lsn == (j + 1 : Int)) && okR (rs.getD j zeroR).v) = true) ∧ Below W.heap.size W wr) (fun i _ => rs.length - (intOf i).toNat)
      case atStart => exact ⟨0, Nat.zero_le _, rfl, fun j hj => by omega, Below.refl _ _⟩
      case round =>
        obtain ⟨k, hk, rfl, hall, hbl⟩ := hrel
        have hbm : Below w.heap.size w wr := hbW.trans (hbl.mono hbW.size)
        have r0 := (hbl.cell (block_lt c0)).trans c0
        clear c0 c1
        by_cases hlt : k < rs.length
        · obtain ⟨b, off, rfl, hcell, hrd⟩ := HC.out k hlt
          have HR : Hid (wr.rangeAt b (off + k * 15) (rs.getD k zeroR).cells) := range_below hcell hbl
          have x0 : wr.cell? ⟨b, off + k * 15, none⟩ = some (.int .i64 (rs.getD k zeroR).lsn) := HR.out 0 _ rfl
          have C := specRecOk_any (rs.getD k zeroR) wr (hrd.below hbl) (HS.out k hlt)
          have HN : Hid ((((rs.getD k zeroR).lsn == (k + 1 : Int)) && okR (rs.getD k zeroR).v) = false → R = false) := HNO.out k hlt
          have HY : Hid ((((rs.getD k zeroR).lsn == (k + 1 : Int)) && okR (rs.getD k zeroR).v) = true → ∀ j, j < k + 1 → (((rs.getD j zeroR).lsn == (j + 1 : Int)) && okR (rs.getD j zeroR).v) = true) := fun h j hj => by
            by_cases e : j = k
            · rw [e]; exact h
            · exact hall.out j (by omega)
          clear hcell HC HLEN HSURE HNO HALL hall HS hrd
          generalize rs.getD k zeroR = y at *
          cases h6 : (y.lsn == (k + 1 : Int)) with
          | false =>
            have HR2 : Hid (R = false) := HN.out (by rw [h6]; rfl)
            have h6b : (y.lsn != (k : Int) + 1) = true := by simp only [bne, h6, Bool.not_false]
            clear h6
            clear HN HY C
            go_wp2_with fail
            go_ret
            exact ⟨ret_bool HR2.out.symm, hbm⟩
          | true =>
            rw [h6, Bool.true_and] at HN HY
            have h6b : (y.lsn != (k : Int) + 1) = false := by simp only [bne, h6, Bool.not_true]
            clear h6
            cases h7 : okR y.v with
            | false =>
              have HR2 : Hid (R = false) := HN.out h7
              clear HN HY
              rw [h7] at C
              go_wp2_with (first | (guard_target = wpList _ _ _ (Oper.mk (some 38) _ _ _ _ _ :: _) _ _; refine load_if (by rfl) 59 (.tmp 37) rfl b (off + k * 15) rfl y.cells _ HR.out Tryz.underlying59 rfl HI.out ?_) | fail)
              refine C.mono ?_
              rintro e w1 ⟨rfl, hb1⟩
              go_wp2_with fail
              go_ret
              exact ⟨ret_bool HR2.out.symm, hbm.trans (hb1.mono hbm.size)⟩
            | true =>
              have HY2 := HY.out h7
              clear HN HY
              rw [h7] at C
              go_wp2_with (first | (guard_target = wpList _ _ _ (Oper.mk (some 38) _ _ _ _ _ :: _) _ _; refine load_if (by rfl) 59 (.tmp 37) rfl b (off + k * 15) rfl y.cells _ HR.out Tryz.underlying59 rfl HI.out ?_) | fail)
              refine C.mono ?_
              rintro e w1 ⟨rfl, hb1⟩
              clear C
              have hb2 : Below W.heap.size W w1 := hbl.trans (hb1.mono hbl.size)
              go_wp2_with fail
              go_roundw
              case rel => exact ⟨k + 1, by omega, by go_num, HY2, hb2⟩
              case measure => simp [intOf]; omega
        · have HR : Hid (R = true) := HALL.out h4 h5 (fun j hj => hall.out j (by omega))
          clear HLEN HSURE HNO HALL
          go_wp2
          go_ret
          exact ⟨ret_bool HR.out.symm, hbm⟩
end Go.Proofs.YtbpdocjkhmiimabGreatDoor

/- The walks of spec.Tear and impl.Tear. -/
namespace Go.Proofs.YtbpdocjkhmiimabGreatDoor
open Go.RowKit

theorem tearOf_no {l : LogV} (n : Int) (h : okLog l = false) : tearOf l n = l := by unfold tearOf; rw [if_neg]; rintro ⟨h1, _⟩; rw [h] at h1; cases h1
theorem tearOf_neg {l : LogV} {n : Int} (h : ¬ 0 ≤ n) : tearOf l n = l := by unfold tearOf; rw [if_neg]; rintro ⟨_, h1⟩; exact h h1
theorem tearOf_yes {l : LogV} {n : Int} (h : okLog l = true) (hn : 0 ≤ n) : tearOf l n = ⟨l.recs.take (leftOf l n), leftOf l n⟩ := by unfold tearOf; rw [if_pos ⟨h, hn⟩]
theorem tear_short {t p : LogA} {n : Int} (h : t.v = tearOf p.v n) {m : Nat} (hs : p.short m) : t.short m := by
  have e : ∃ j, t.recs.map RecA.v = (p.recs.take j).map RecA.v := by
    have := congrArg LogV.recs h
    unfold tearOf at this
    split at this
    · exact ⟨_, by simp only [LogA.v] at this; rw [this, List.map_take]⟩
    · exact ⟨p.recs.length, by rw [List.take_length]; exact this⟩
  obtain ⟨j, e⟩ := e
  exact ⟨by rw [mapV_len e, List.length_take]; have := hs.len; omega, mapV_all e (fun r => r.short m) (fun a b e hb => short_of e hb) (fun r hr => hs.each r (List.mem_of_mem_take hr))⟩
/-- The first of a row. -/
theorem ReadsRs.take {w : World} {a : Option Addr} {rs : List RecA} (h : ReadsRs w a rs) (j : Nat) : ReadsRs w a (rs.take j) := by
  intro hne
  have hne' : rs ≠ [] := by rintro rfl; simp at hne
  obtain ⟨b, off, ha, hc⟩ := h hne'
  refine ⟨b, off, ha, fun k hk => ?_⟩
  rw [List.length_take] at hk
  have e : (rs.take j).getD k zeroR = rs.getD k zeroR := by simp [List.getD, show k < j by omega]
  rw [e]
  exact hc k (by omega)
theorem OwnRs.take {w : World} {lo hi : Nat} {a : Option Addr} {c : Nat} {rs : List RecA} (h : OwnRs w lo hi a c rs) (j : Nat) (hj : j ≤ rs.length) : OwnRs w lo hi a c (rs.take j) := by
  have hl : (rs.take j).length = j := by rw [List.length_take]; omega
  have hob : (Value.slice a (rs.take j).length c).ownBlock = (Value.slice a rs.length c).ownBlock := by cases a <;> rfl
  refine ⟨?_, h.top, fun k hk => h.blk k (by rw [← hob]; exact hk), fun r hr => h.each r (List.mem_of_mem_take hr), ?_⟩
  · have hcl : cellsRs (rs.take j) = (cellsRs rs).take (j * 15) := by
      have e2 : cellsRs rs = cellsRs (rs.take j) ++ cellsRs (rs.drop j) := by rw [← cellsRs_app, List.take_append_drop]
      rw [e2]
      exact (List.take_left' (by rw [cellsRs_len, hl])).symm
    refine ⟨by rw [cellsRs_len], ?_⟩
    rcases h.row.2 with ⟨hv, h0⟩ | ⟨g, cap, cur, hv, hg, hgg, h1, h2, h3, h4⟩
    · simp only [Value.slice.injEq] at hv
      refine .inl ⟨?_, by omega⟩
      rw [hv.1, hv.2.2, show (rs.take j).length = 0 by omega]
    · simp only [Value.slice.injEq] at hv
      refine .inr ⟨g, cap, cur, ?_, hg, hgg, by omega, h2, h3, ?_⟩
      · rw [hv.1, hv.2.2]
      · rw [hcl, ← h4, List.take_take, hl]
        congr 1
        have := Nat.mul_le_mul_right 15 hj
        omega
  · rw [hob]
    have hap := h.apart
    have e : rs.flatMap RecA.blocks = (rs.take j).flatMap RecA.blocks ++ (rs.drop j).flatMap RecA.blocks := by rw [← List.flatMap_append, List.take_append_drop]
    rw [e, ← List.append_assoc] at hap
    exact (List.nodup_append.1 hap).1
set_option maxHeartbeats 4000000 in
set_option maxRecDepth 100000 in
theorem specTear_any (l : LogA) (n : Int) (w : World) (hr : l.reads w) (hl : l.short 1048576) (hcp : ∀ r ∈ l.recs, r.aL = none → r.cL = 0) :
    Calls Tryz.prog 7 #[.agg l.cells.toArray, .int .i64 n] w fun e w' => ∃ t : LogA, e = .returned (.agg t.cells.toArray) ∧ Hid (t.v = tearOf l.v n) ∧ t.own w' w.heap.size w'.heap.size ∧ Below w.heap.size w w' := by
  have HNO : Hid (okLog l.v = false → tearOf l.v n = l.v) := fun h => tearOf_no n h
  have HNEG : Hid (¬ 0 ≤ n → tearOf l.v n = l.v) := fun h => tearOf_neg h
  have HYES : Hid (okLog l.v = true → 0 ≤ n → tearOf l.v n = ⟨l.v.recs.take (if n < l.recs.length - l.sure then (l.sure + n).toNat else l.recs.length), ((if n < l.recs.length - l.sure then (l.sure + n).toNat else l.recs.length) : Nat)⟩) := fun h hn => by rw [tearOf_yes h hn]; unfold leftOf; rw [l.v_len]; rfl
  have HSR : Hid (okLog l.v = true → 0 ≤ l.sure ∧ l.sure ≤ l.recs.length) := fun h => by have h1 := (okLog_yes h).2.1; have := (okLog_yes h).2.2.1; rw [l.v_len] at this; exact ⟨h1, this⟩
  obtain ⟨W, hW, b0, b1, hbW, hsW⟩ := boxes2 w l.cells [.slice none 0 0, .int .i64 0] 28 28
  have hs0 : w.heap.size + 1 < W.heap.size := by omega
  clear hsW
  have C1 := l5Copy_any l W (hr.below hbW) hl hcp
  have HLV : Hid (∀ t : LogA, t.v = l.v → t.recs.length = l.recs.length ∧ t.sure = l.sure ∧ t.recs.map RecA.v = l.v.recs) := fun t h => by
    simp only [LogA.v, LogV.mk.injEq] at h
    exact ⟨mapV_len h.1, h.2, h.1⟩
  have HX : Hid (∀ u, Below W.heap.size W u → Box u w.heap.size l.cells 28) := fun u hu => b0.below hu b0.lt
  have hll := hl.len
  simp only [LogA.cells] at *
  have x0 := b0.cell 0 _ rfl
  have x1 := b0.cell 1 _ rfl
  clear b0
  go_enter Tryz.func7, Tryz.ntmps7
  go_wp2_with fail
  rw [hW.out]
  clear hW
  refine C1.mono ?_
  clear C1 x0 x1
  rintro e w1 ⟨t, rfl, hv, ho, hb1⟩
  have HE : Hid (_ ∧ _ ∧ _) := HLV.out t hv.out
  obtain ⟨rt, st, at', ct⟩ := t
  have hrt : rt.length ≤ 1048576 := by have := HE.out.1; simp only at this; omega
  simp only
  obtain ⟨W2, hW2, b2, hb2, hs2⟩ := boxes1 w1 [.slice at' rt.length ct, .int .i64 st] 28
  have k12 : Below W.heap.size W W2 := hb1.trans (hb2.mono hb1.size)
  have hs1 := hb1.size
  have hs2' := hb2.size
  have hlt2 := b2.lt
  have D2 : Below w.heap.size w W2 := hbW.trans (k12.mono hbW.size)
  have o2 : OwnRs W2 W.heap.size w1.heap.size at' ct rt := OwnRs.below ho hb2
  have b12 := b1.below k12 b1.lt
  have C2 := specLogOk_any l W2 (hr.below D2) (LogA.short_wide hl)
  simp only [LogA.cells] at C2
  have y0 := (HX.out W2 k12).cell 0 _ rfl
  have y1 := (HX.out W2 k12).cell 1 _ rfl
  clear hs2 ho hb1 hb2 b1
  go_upto_region 2 with fail
  rw [hW2.out]
  clear hW2
  go_wp2_with fail
  refine C2.mono ?_
  clear C2 y0 y1
  generalize okLog l.v = R at *
  rintro e w3 ⟨rfl, hb3⟩
  have hs3 := hb3.size
  have b23 := b2.below hb3 b2.lt
  have b13 := b12.below hb3 b12.lt
  have o3 := OwnRs.below o2 hb3
  have D3 : Below w.heap.size w w3 := D2.trans (hb3.mono D2.size)
  have K13 : Hid (Below W.heap.size W w3) := k12.trans (hb3.mono k12.size)
  clear b2 b12 o2 hb3 D2 k12
  have k13 : Below W.heap.size W w3 := K13.out
  cases R with
  | false =>
    have HV := HNO.out rfl
    have e0 := b23.cell 0 _ rfl
    have e1' := b23.cell 1 _ rfl
    have m0 := b13.cell 0 _ rfl
    have m1 := b13.cell 1 _ rfl
    have mf0 := b13.frozen 0
    have mf1 := b13.frozen 1
    obtain ⟨WF, hWF, bF, hwF, hsF⟩ := box2_fill b13 (.slice at' rt.length ct) (.int .i64 st)
    have q0 := bF.cell 0 _ rfl
    have q1 := bF.cell 1 _ rfl
    have hoF := (o3.within hwF (.inr (by omega))).widen (show w.heap.size ≤ W.heap.size by omega) (show w1.heap.size ≤ WF.heap.size by omega) (Nat.le_refl _)
    have hbF : Below w.heap.size w WF := D3.trans (hwF.below (by omega) (by omega))
    have HF : Hid (_ ∧ _ ∧ _) := ⟨hv.out.trans HV.symm, hoF, hbF⟩
    clear hwF hsF bF hv HV hoF hbF HNO HYES HLV HE hs1 hs2' hs3 hlt2
    go_wp2
    rw [hWF.out]
    exact bodyPost_ret (v := .agg #[.slice at' rt.length ct, .int .i64 st]) (by simp [results, Tryz.results7, go_sem, q0, q1]) rfl ⟨⟨rt, st, at', ct⟩, rfl, HF.out.1, HF.out.2.1, HF.out.2.2⟩
  | true =>
    by_cases h0 : 0 ≤ n
    case neg =>
      have HV := HNEG.out (by omega)
      have e0 := b23.cell 0 _ rfl
      have e1' := b23.cell 1 _ rfl
      have m0 := b13.cell 0 _ rfl
      have m1 := b13.cell 1 _ rfl
      have mf0 := b13.frozen 0
      have mf1 := b13.frozen 1
      obtain ⟨WF, hWF, bF, hwF, hsF⟩ := box2_fill b13 (.slice at' rt.length ct) (.int .i64 st)
      have q0 := bF.cell 0 _ rfl
      have q1 := bF.cell 1 _ rfl
      have hoF := (o3.within hwF (.inr (by omega))).widen (show w.heap.size ≤ W.heap.size by omega) (show w1.heap.size ≤ WF.heap.size by omega) (Nat.le_refl _)
      have hbF : Below w.heap.size w WF := D3.trans (hwF.below (by omega) (by omega))
      have HF : Hid (_ ∧ _ ∧ _) := ⟨hv.out.trans HV.symm, hoF, hbF⟩
      clear hwF hsF bF hv HV hoF hbF HNO HYES HLV HE hs1 hs2' hs3 hlt2
      go_wp2
      rw [hWF.out]
      exact bodyPost_ret (v := .agg #[.slice at' rt.length ct, .int .i64 st]) (by simp [results, Tryz.results7, go_sem, q0, q1]) rfl ⟨⟨rt, st, at', ct⟩, rfl, HF.out.1, HF.out.2.1, HF.out.2.2⟩

    case pos =>
    have HV := HYES.out rfl h0
    obtain ⟨hsr0, hsr1⟩ := HSR.out rfl
    have p0 := (HX.out w3 k13).cell 0 _ rfl
    have p1 := (HX.out w3 k13).cell 1 _ rfl
    obtain ⟨j, hj, HJ1, HJ2⟩ : ∃ j : Nat, j ≤ rt.length ∧ Hid ((if n < l.recs.length - l.sure then (l.sure + n).toNat else l.recs.length) = j) ∧ Hid ((if n < (l.recs.length : Int) - l.sure then l.sure + n else (l.recs.length : Int)) = (j : Int)) := by
      have e1 : rt.length = l.recs.length := HE.out.1
      refine ⟨_, ?_, rfl, ?_⟩
      · split <;> omega
      · rw [Hid]; split <;> omega
    have oj := OwnRs.take o3 j hj
    have hcap : rt.length ≤ ct := by
      rcases o3.row.2 with ⟨hv', h00⟩ | ⟨g, cap, cur, hv', _, _, h1, _⟩
      · omega
      · simp only [Value.slice.injEq] at hv'; omega
    have hjl : (rt.take j).length = j := by rw [List.length_take]; omega
    rw [HJ1.out] at HV
    have e0 := b23.cell 0 _ rfl
    have e1' := b23.cell 1 _ rfl
    have ef0 := b23.frozen 0
    have ef1 := b23.frozen 1
    have hnil : at' = none → ct = 0 ∧ j = 0 := by
      intro ha
      have h1 := OwnRs.nocap o3 ha
      exact ⟨h1, by omega⟩
    obtain ⟨W4, hW4, b24, hw4, hs4⟩ := box2_fill b23 (.slice at' j ct) (.int .i64 j)
    have hs4a := Nat.le_of_eq hs4
    have hs4b := Nat.le_of_eq hs4.symm
    clear hs4
    have b14 := b13.within hw4 (by omega)
    have o4 := oj.within hw4 (.inl (Nat.le_refl _))
    have D4 : Below w.heap.size w W4 := D3.trans (hw4.below (by omega) (by omega))
    have y0 := b24.cell 0 _ rfl
    have y1 := b24.cell 1 _ rfl
    have m0 := b14.cell 0 _ rfl
    have m1 := b14.cell 1 _ rfl
    have mf0 := b14.frozen 0
    have mf1 := b14.frozen 1
    obtain ⟨WF, hWF, bF, hwF, hsF⟩ := box2_fill b14 (.slice at' j ct) (.int .i64 j)
    have q0 := bF.cell 0 _ rfl
    have q1 := bF.cell 1 _ rfl
    have hoF := (o4.within hwF (.inr (by omega))).widen (show w.heap.size ≤ W.heap.size by omega) (show w1.heap.size ≤ WF.heap.size by omega) (Nat.le_refl _)
    have hbF : Below w.heap.size w WF := D4.trans (hwF.below (by omega) (by omega))
    have HVV : Hid ((⟨rt.take j, (j : Int), at', ct⟩ : LogA).v = tearOf l.v n) := by
      rw [Hid, HV]
      have e3 : rt.map RecA.v = l.v.recs := HE.out.2.2
      simp only [LogA.v, List.map_take] at e3 ⊢
      rw [e3]
    have HF : Hid (_ ∧ _ ∧ _) := ⟨HVV.out, hoF, hbF⟩
    have HL : Hid ((rt.take j).length = j) := hjl
    clear hwF hsF bF hv HV hoF hbF HNO HNEG HYES HLV HE hs1 hs2' hs3 hlt2 HVV hs4a hs4b hw4 hjl HSR oj o4 b24 b14
    by_cases hk : n < (l.recs.length : Int) - l.sure
    · rw [if_pos hk] at HJ2
      have hJ := HJ2.out
      clear HJ1 HJ2
      cases at' with
      | none =>
        obtain ⟨rfl, rfl⟩ := hnil rfl
        have z0 : ((0 : Nat) : Int) = 0 := rfl
        rw [z0] at hW4 hWF q1 y1
        clear z0
        go_upto_region 9 with fail
        rw [hW4.out]
        clear hW4 e0 e1' ef0 ef1
        go_wp2
        rw [hWF.out]
        exact bodyPost_ret (v := .agg #[.slice none 0 0, .int .i64 0]) (by simp [results, Tryz.results7, go_sem, q0, q1]) rfl ⟨⟨rt.take 0, ((0 : Nat) : Int), none, 0⟩, by simp, HF.out.1, HF.out.2.1, HF.out.2.2⟩
      | some ad =>
        go_upto_region 9 with fail
        rw [hW4.out]
        clear hW4 e0 e1' ef0 ef1
        go_wp2
        rw [hWF.out]
        exact bodyPost_ret (v := .agg #[.slice (some ad) j ct, .int .i64 j]) (by simp [results, Tryz.results7, go_sem, q0, q1]) rfl ⟨⟨rt.take j, (j : Int), some ad, ct⟩, by simp only; rw [HL.out], HF.out.1, HF.out.2.1, HF.out.2.2⟩
    · rw [if_neg hk] at HJ2
      have hJ := HJ2.out
      have hJn : l.recs.length = j := by omega
      clear HJ1 HJ2
      cases at' with
      | none =>
        obtain ⟨rfl, rfl⟩ := hnil rfl
        have z0 : ((0 : Nat) : Int) = 0 := rfl
        rw [z0] at hW4 hWF q1 y1
        clear z0
        go_upto_region 9 with fail
        rw [hW4.out]
        clear hW4 e0 e1' ef0 ef1
        go_wp2
        rw [hWF.out]
        exact bodyPost_ret (v := .agg #[.slice none 0 0, .int .i64 0]) (by simp [results, Tryz.results7, go_sem, q0, q1]) rfl ⟨⟨rt.take 0, ((0 : Nat) : Int), none, 0⟩, by simp, HF.out.1, HF.out.2.1, HF.out.2.2⟩
      | some ad =>
        go_upto_region 9 with fail
        rw [hW4.out]
        clear hW4 e0 e1' ef0 ef1
        go_wp2
        rw [hWF.out]
        exact bodyPost_ret (v := .agg #[.slice (some ad) j ct, .int .i64 j]) (by simp [results, Tryz.results7, go_sem, q0, q1]) rfl ⟨⟨rt.take j, (j : Int), some ad, ct⟩, by simp only; rw [HL.out], HF.out.1, HF.out.2.1, HF.out.2.2⟩

theorem OwnRs.capLen {w : World} {lo hi : Nat} {a : Option Addr} {c : Nat} {rs : List RecA} (h : OwnRs w lo hi a c rs) : rs.length ≤ c := by
  rcases h.row.2 with ⟨hv', h00⟩ | ⟨g, cap, cur, hv', _, _, h1, _⟩
  · omega
  · simp only [Value.slice.injEq] at hv'; omega
theorem OwnRs.nilLen {w : World} {lo hi : Nat} {a : Option Addr} {c : Nat} {rs : List RecA} (h : OwnRs w lo hi a c rs) : a = none → rs.length = 0 ∧ c = 0 := fun ha => by
  have h1 := h.nocap ha
  have h2 := h.capLen
  exact ⟨by omega, h1⟩

set_option maxHeartbeats 1000000 in
theorem sureLog_any (a : Option Addr) (c m : Nat) (w : World) :
    Calls Tryz.prog 27 #[.slice a m c] w fun e w' => e = .returned (.agg #[.slice a m c, .int .i64 m]) ∧ Below w.heap.size w w' := by
  obtain ⟨W, hW, b0, hbW, hsW⟩ := boxes1 w [.slice a m c, .int .i64 m] 28
  have q0 := b0.cell 0 _ rfl
  have q1 := b0.cell 1 _ rfl
  clear b0 hsW
  go_enter Tryz.func27, Tryz.ntmps27
  go_wp2
  rw [hW.out]
  exact bodyPost_ret (v := .agg #[.slice a m c, .int .i64 m]) (by simp [results, Tryz.results27, go_sem, q0, q1]) rfl ⟨rfl, hbW⟩

set_option maxHeartbeats 4000000 in
set_option maxRecDepth 100000 in
theorem implTear_any (l : LogA) (n : Int) (w : World) (hg : ErrT w) (hr : l.reads w) (hl : l.short 1048576) (hcp : ∀ r ∈ l.recs, r.aL = none → r.cL = 0) (hcl : l.recs.length ≤ l.c) (hnl : l.a = none → l.recs.length = 0 ∧ l.c = 0) :
    Calls Tryz.prog 9 #[.agg l.cells.toArray, .int .i64 n] w fun e w' => ∃ t : LogA, e = .returned (.agg t.cells.toArray) ∧ Hid (t.v = tearOf l.v n) ∧ t.own w' w.heap.size w'.heap.size ∧ Below w.heap.size w w' := by
  have HNO : Hid (okLog l.v = false → tearOf l.v n = l.v) := fun h => tearOf_no n h
  have HNEG : Hid (¬ 0 ≤ n → tearOf l.v n = l.v) := fun h => tearOf_neg h
  have HYES : Hid (okLog l.v = true → 0 ≤ n → tearOf l.v n = ⟨l.v.recs.take (if n < l.recs.length - l.sure then (l.sure + n).toNat else l.recs.length), ((if n < l.recs.length - l.sure then (l.sure + n).toNat else l.recs.length) : Nat)⟩) := fun h hn => by rw [tearOf_yes h hn]; unfold leftOf; rw [l.v_len]; rfl
  have HSR : Hid (okLog l.v = true → 0 ≤ l.sure ∧ l.sure ≤ l.recs.length) := fun h => by have h1 := (okLog_yes h).2.1; have := (okLog_yes h).2.2.1; rw [l.v_len] at this; exact ⟨h1, this⟩
  obtain ⟨W, hW, b0, b1, hbW, hsW⟩ := boxes2 w l.cells [.slice none 0 0, .int .i64 0] 28 28
  have hs0 : w.heap.size + 1 < W.heap.size := by omega
  clear hsW
  have C1 := implLogOk_any l W (hg.keep hbW) (hr.below hbW) (LogA.short_wide hl)
  have HC2 : Hid (∀ u, Below W.heap.size W u → Calls _ _ _ _ _) := fun u hu => copyLog_any l u (hr.below (hbW.trans (hu.mono hbW.size))) hl hcp
  have HC3 : Hid (∀ u j, Below W.heap.size W u → Calls _ _ _ _ _) := fun u j hu => copyRecs_any l.a l.c (l.recs.take j) u (ReadsRs.take (hr.below (hbW.trans (hu.mono hbW.size))) j) (by rw [List.length_take]; have := hl.len; omega) (fun r hr' => (LogA.short_wide hl).each r (List.mem_of_mem_take hr')) (fun r hr' => hcp r (List.mem_of_mem_take hr'))
  have HX : Hid (∀ u, Below W.heap.size W u → Box u w.heap.size l.cells 28) := fun u hu => b0.below hu b0.lt
  have HY : Hid (∀ u, Below W.heap.size W u → Box u (w.heap.size + 1) [.slice none 0 0, .int .i64 0] 28) := fun u hu => b1.below hu b1.lt
  have hll := hl.len
  simp only [LogA.cells] at *
  have x0 := b0.cell 0 _ rfl
  have x1 := b0.cell 1 _ rfl
  clear b0 b1
  go_enter Tryz.func9, Tryz.ntmps9
  go_wp2_with fail
  rw [hW.out]
  clear hW
  refine C1.mono ?_
  clear C1 x0 x1
  generalize okLog l.v = R at *
  rintro e w1 ⟨rfl, hb1⟩
  have hs1 := hb1.size
  have p0 := (HX.out w1 hb1).cell 0 _ rfl
  have p1 := (HX.out w1 hb1).cell 1 _ rfl
  cases R with
  | false =>
    have HV : Hid (tearOf l.v n = l.v) := HNO.out rfl
    clear HNO HNEG HYES HSR
    have C2 := HC2.out w1 hb1
    go_wp2_with fail
    refine C2.mono ?_
    clear C2 p0 p1
    rintro e w2 ⟨t, rfl, hv, ho, hb2⟩
    have hs2 := hb2.size
    have B2 : Below W.heap.size W w2 := hb1.trans (hb2.mono hs1)
    have b12 := HY.out w2 B2
    have m0 := b12.cell 0 _ rfl
    have m1 := b12.cell 1 _ rfl
    have mf0 := b12.frozen 0
    have mf1 := b12.frozen 1
    obtain ⟨WF, hWF, bF, hwF, hsF⟩ := box2_fill b12 (.slice t.a t.recs.length t.c) (.int .i64 t.sure)
    have q0 := bF.cell 0 _ rfl
    have q1 := bF.cell 1 _ rfl
    have hoF := (LogA.own.within ho hwF (.inr (by omega))).widen (show w.heap.size ≤ w1.heap.size by omega) (show w2.heap.size ≤ WF.heap.size by omega) (Nat.le_refl _)
    have hbF : Below w.heap.size w WF := (hbW.trans (B2.mono hbW.size)).trans (hwF.below (by omega) (by omega))
    have HF : Hid (_ ∧ _ ∧ _) := ⟨hv.out.trans HV.out.symm, hoF, hbF⟩
    clear hwF hsF bF hv HV hoF hbF b12 ho hb2 B2
    go_wp2
    rw [hWF.out]
    exact bodyPost_ret (v := .agg #[.slice t.a t.recs.length t.c, .int .i64 t.sure]) (by simp [results, Tryz.results9, go_sem, q0, q1]) rfl ⟨t, rfl, HF.out.1, HF.out.2.1, HF.out.2.2⟩
  | true =>
    by_cases h0 : 0 ≤ n
    case neg =>
      have HV : Hid (tearOf l.v n = l.v) := HNEG.out (by omega)
      clear HNO HNEG HYES HSR
      have C2 := HC2.out w1 hb1
      go_wp2_with fail
      refine C2.mono ?_
      clear C2 p0 p1
      rintro e w2 ⟨t, rfl, hv, ho, hb2⟩
      have hs2 := hb2.size
      have B2 : Below W.heap.size W w2 := hb1.trans (hb2.mono hs1)
      have b12 := HY.out w2 B2
      have m0 := b12.cell 0 _ rfl
      have m1 := b12.cell 1 _ rfl
      have mf0 := b12.frozen 0
      have mf1 := b12.frozen 1
      obtain ⟨WF, hWF, bF, hwF, hsF⟩ := box2_fill b12 (.slice t.a t.recs.length t.c) (.int .i64 t.sure)
      have q0 := bF.cell 0 _ rfl
      have q1 := bF.cell 1 _ rfl
      have hoF := (LogA.own.within ho hwF (.inr (by omega))).widen (show w.heap.size ≤ w1.heap.size by omega) (show w2.heap.size ≤ WF.heap.size by omega) (Nat.le_refl _)
      have hbF : Below w.heap.size w WF := (hbW.trans (B2.mono hbW.size)).trans (hwF.below (by omega) (by omega))
      have HF : Hid (_ ∧ _ ∧ _) := ⟨hv.out.trans HV.out.symm, hoF, hbF⟩
      clear hwF hsF bF hv HV hoF hbF b12 ho hb2 B2
      go_wp2
      rw [hWF.out]
      exact bodyPost_ret (v := .agg #[.slice t.a t.recs.length t.c, .int .i64 t.sure]) (by simp [results, Tryz.results9, go_sem, q0, q1]) rfl ⟨t, rfl, HF.out.1, HF.out.2.1, HF.out.2.2⟩
    case pos =>
    have HV := HYES.out rfl h0
    obtain ⟨hsr0, hsr1⟩ := HSR.out rfl
    obtain ⟨j, hj, HJ1, HJ2⟩ : ∃ j : Nat, j ≤ l.recs.length ∧ Hid ((if n < l.recs.length - l.sure then (l.sure + n).toNat else l.recs.length) = j) ∧ Hid (l.sure + (if (l.recs.length : Int) - l.sure < n then (l.recs.length : Int) - l.sure else n) = (j : Int)) := by
      refine ⟨_, ?_, rfl, ?_⟩
      · split <;> omega
      · rw [Hid]; split <;> split <;> omega
    rw [HJ1.out] at HV
    have hJ := HJ2.out
    clear HNO HNEG HYES HSR HJ1 HJ2
    have hjl : (l.recs.take j).length = j := by rw [List.length_take]; omega
    have C3 := HC3.out w1 j hb1
    rw [hjl] at C3
    have HVT : Hid (∀ ts : List RecA, ts.map RecA.v = (l.recs.take j).map RecA.v → ∀ (a' : Option Addr) (c' : Nat), (⟨ts, (ts.length : Int), a', c'⟩ : LogA).v = tearOf l.v n) := fun ts h a' c' => by
      rw [HV]
      have hlen := mapV_len h
      rw [hjl] at hlen
      simp only [LogA.v, h, hlen, List.map_take]
    clear HV
    go_upto_region 4 with fail
    generalize (if (l.recs.length : Int) - l.sure < n then (l.recs.length : Int) - l.sure else n) = I1 at *
    clear hJ
    have hjc : j ≤ l.c := by omega
    generalize l.a = A at *
    cases A with
    | none =>
      obtain ⟨hz1, hz2⟩ := hnl rfl
      obtain rfl : j = 0 := by omega
      rw [hz2] at C3 p0 ⊢
      go_wp2_with fail
      refine C3.mono ?_
      clear C3 p0 p1
      rintro e w2 ⟨a', c', ts, rfl, hv, ho, hb2⟩
      have hs2 := hb2.size
      have B2 : Below W.heap.size W w2 := hb1.trans (hb2.mono hs1)
      have HVV : Hid _ := HVT.out ts hv.out a' c'
      have C4 := sureLog_any a' c' ts.length w2
      go_wp2_with fail
      refine C4.mono ?_
      clear C4 HVT
      rintro e w3 ⟨rfl, hb3⟩
      have hs3 := hb3.size
      have B3 : Below W.heap.size W w3 := B2.trans (hb3.mono (by omega))
      have o3 := OwnRs.below ho hb3
      have b13 := HY.out w3 B3
      have m0 := b13.cell 0 _ rfl
      have m1 := b13.cell 1 _ rfl
      have mf0 := b13.frozen 0
      have mf1 := b13.frozen 1
      obtain ⟨WF, hWF, bF, hwF, hsF⟩ := box2_fill b13 (.slice a' ts.length c') (.int .i64 ts.length)
      have q0 := bF.cell 0 _ rfl
      have q1 := bF.cell 1 _ rfl
      have hoF := (o3.within hwF (.inr (by omega))).widen (show w.heap.size ≤ w1.heap.size by omega) (show w2.heap.size ≤ WF.heap.size by omega) (Nat.le_refl _)
      have hbF : Below w.heap.size w WF := (hbW.trans (B3.mono hbW.size)).trans (hwF.below (by omega) (by omega))
      have HF : Hid (_ ∧ _ ∧ _) := ⟨HVV.out, hoF, hbF⟩
      clear hwF hsF bF hv HVV hoF hbF b13 ho o3 hb2 hb3 B2 B3
      go_wp2
      rw [hWF.out]
      exact bodyPost_ret (v := .agg #[.slice a' ts.length c', .int .i64 ts.length]) (by simp [results, Tryz.results9, go_sem, q0, q1]) rfl ⟨⟨ts, (ts.length : Int), a', c'⟩, rfl, HF.out.1, HF.out.2.1, HF.out.2.2⟩
    | some ad =>
      go_wp2_with fail
      refine C3.mono ?_
      clear C3 p0 p1
      rintro e w2 ⟨a', c', ts, rfl, hv, ho, hb2⟩
      have hs2 := hb2.size
      have B2 : Below W.heap.size W w2 := hb1.trans (hb2.mono hs1)
      have HVV : Hid _ := HVT.out ts hv.out a' c'
      have C4 := sureLog_any a' c' ts.length w2
      go_wp2_with fail
      refine C4.mono ?_
      clear C4 HVT
      rintro e w3 ⟨rfl, hb3⟩
      have hs3 := hb3.size
      have B3 : Below W.heap.size W w3 := B2.trans (hb3.mono (by omega))
      have o3 := OwnRs.below ho hb3
      have b13 := HY.out w3 B3
      have m0 := b13.cell 0 _ rfl
      have m1 := b13.cell 1 _ rfl
      have mf0 := b13.frozen 0
      have mf1 := b13.frozen 1
      obtain ⟨WF, hWF, bF, hwF, hsF⟩ := box2_fill b13 (.slice a' ts.length c') (.int .i64 ts.length)
      have q0 := bF.cell 0 _ rfl
      have q1 := bF.cell 1 _ rfl
      have hoF := (o3.within hwF (.inr (by omega))).widen (show w.heap.size ≤ w1.heap.size by omega) (show w2.heap.size ≤ WF.heap.size by omega) (Nat.le_refl _)
      have hbF : Below w.heap.size w WF := (hbW.trans (B3.mono hbW.size)).trans (hwF.below (by omega) (by omega))
      have HF : Hid (_ ∧ _ ∧ _) := ⟨HVV.out, hoF, hbF⟩
      clear hwF hsF bF hv HVV hoF hbF b13 ho o3 hb2 hb3 B2 B3
      go_wp2
      rw [hWF.out]
      exact bodyPost_ret (v := .agg #[.slice a' ts.length c', .int .i64 ts.length]) (by simp [results, Tryz.results9, go_sem, q0, q1]) rfl ⟨⟨ts, (ts.length : Int), a', c'⟩, rfl, HF.out.1, HF.out.2.1, HF.out.2.2⟩
end Go.Proofs.YtbpdocjkhmiimabGreatDoor
