/- Several texts in one, in their order. -/
import Derived.Test.YtoboickdkednkaaGreatDoorPAppendx9
import Derived.Test.YtoboickdkednkaaGreatDoorPAppendx10
import Derived.Test.YtoboickdkednkaaGreatDoorPAppendx7
import Derived.Deep.CutRange
import Derived.Test.YtoboickdkednkaaGreatDoorRows
import Derived.Test.YtoboickdkednkaaGreatDoorPAppendx5
import Derived.LaidLaws
import Derived.LaidHandle
import Derived.Stop.Joined
import Derived.ChangeVars
import Derived.Test.YtoboickdkednkaaGreatDoorPAppendx1
set_option maxHeartbeats 8000000
set_option maxRecDepth 100000
namespace Go.Proofs.YtoboickdkednkaaGreatDoor
open Go.RowKit
theorem lrec_info' (q : RecA) : (Tryz.prog.info? 52).map (·.size) = some q.cells.length := by show _ = some 15; kernel_rfl
theorem llog_info (q : LogA) : (Tryz.prog.info? 46).map (·.size) = some q.cells.length := by show _ = some 2; kernel_rfl
theorem log_rng {w : World} {B : Nat} {t : TypeId} (q : LogA) (b : Box w B q.cells t) : w.rangeAt B 0 q.cells := Box.range [] q.cells [] (by simpa using b)
theorem rec_rng' {w : World} {B : Nat} {t : TypeId} (q : RecA) (b : Box w B q.cells t) : w.rangeAt B 0 q.cells := Box.range [] q.cells [] (by simpa using b)
theorem count_mid {t : LogA} (h : t.short 1048576) : (t.count : Int) ≤ 10995116277760 := by
 have h1 := countRs_bound t.recs 1048576 h.each
 have h2 := h.len
 have h3 : t.recs.length * (10 + 7 * 1048576) ≤ 1048576 * (10 + 7 * 1048576) := Nat.mul_le_mul_right _ h2
 have e : t.count = countRs t.recs := rfl
 rw [e]
 omega
def LogAns (w w' : World) (RO : LogV) (RK : Int) (e : Ending) : Prop := ∃ t : LogA, e = .returned (.tuple #[.agg t.cells.toArray, .int .i64 RK]) ∧ Hid (t.v = RO) ∧ t.own w' w.heap.size w'.heap.size ∧ Below w.heap.size w w'
theorem append_short {t p : LogA} {r : RecA} (h : t.v = (appendOf p.v r.v).1) (hp : p.short 1048576) (hr : r.short 1048576) (hlen : t.recs.length ≤ 1048576) : t.short 1048576 := by
 refine ⟨hlen, fun x hx => ?_⟩
 have hm : x.v ∈ (appendOf p.v r.v).1.recs := by rw [← h]; exact List.mem_map.2 ⟨x, hx, rfl⟩
 unfold appendOf at hm
 split at hm
 ·rcases List.mem_append.1 hm with hm | hm
  ·obtain ⟨y, hy, ey⟩ := List.mem_map.1 hm
   exact short_of ey.symm (hp.each y hy)
  ·have e := List.mem_singleton.1 hm
   have hs := short_at hr (p.v.recs.length + 1)
   exact short_of (r := r.at (p.v.recs.length + 1)) e hs
 ·obtain ⟨y, hy, ey⟩ := List.mem_map.1 hm
  exact short_of ey.symm (hp.each y hy)
theorem append_len (p : LogA) (r : RecV) (hp : p.recs.length ≤ 1048576) : (appendOf p.v r).1.recs.length ≤ 1048576 := by
 unfold appendOf
 split
 ·rename_i h
  have h1 := (okLog_yes h.1).1
  simp only [List.length_append, List.length_singleton]
  omega
 ·rw [p.v_len]; exact hp
theorem markRec_wide (r : RecA) (lo hi : Nat) (k0 : Int) (w : World) (ho : r.own w lo hi) (hl : r.short 1099511627776) (h0 : 0 ≤ k0) (hk : k0 ≤ 21990232555520) :
  Calls Tryz.prog 25 #[.agg r.cells.toArray, .int .i64 k0] w fun e w' => e = .returned (.int .i64 (k0 + r.count)) ∧ (r.mark k0).own w' lo hi ∧ Touch r.blocks w w' := by
 obtain ⟨W, hW, b0, hbW, hsW⟩ := boxes1 w r.cells 39
 have hoW := ho.below hbW
 have hlw := ho.txs.2.1
 have hap := ho.apart
 have HC : Hid (r.count = r.bf.count + r.af.count + 3 * r.txs.length ∧ r.bf.count ≤ 2199023255552 ∧ r.af.count ≤ 2199023255552) := ⟨rfl, by have := hl.bf; simp only [SlotA.count]; omega, by have := hl.af; simp only [SlotA.count]; omega⟩
 have hbl : ∀ k ∈ r.blocks, k < w.heap.size := by
  intro k hk
  simp only [RecA.blocks, List.mem_append] at hk
  rcases hk with h | h | h
  ·have := (SlotA.blocks_lt ho.bf k h).2; omega
  ·have := (SlotA.blocks_lt ho.af k h).2; omega
  ·have := (ho.txs.lt k (Option.mem_toList.1 h)).2; omega
 have hd1 : ∀ k ∈ r.bf.blocks, k ∉ r.af.blocks ∧ k ∉ (Value.slice r.aL r.txs.length r.cL).ownBlock.toList := by
  intro k hk
  have := (List.nodup_append.1 hap).2.2 k hk
  exact ⟨fun h => this k (List.mem_append.2 (.inl h)) rfl, fun h => this k (List.mem_append.2 (.inr h)) rfl⟩
 have hd2 : ∀ k ∈ r.af.blocks, k ∉ (Value.slice r.aL r.txs.length r.cL).ownBlock.toList := by
  intro k hk h
  exact (List.nodup_append.1 (List.nodup_append.1 hap).2.1).2.2 k hk k h rfl
 have C1 := markSlot_touch r.bf lo hi k0 W hoW.bf h0 hl.bf.1 hl.bf.2 (by omega)
 simp only [SlotA.cells] at C1
 have HB : Hid (∀ w', Touch r.blocks W w' → Box w' w.heap.size r.cells 39) := fun w' ht => b0.touch ht (fun h => by have := hbl _ h; omega)
 have hsub1 : ∀ k ∈ r.bf.blocks, k ∈ r.blocks := fun k hk => List.mem_append.2 (.inl hk)
 have hsub2 : ∀ k ∈ r.af.blocks, k ∈ r.blocks := fun k hk => List.mem_append.2 (.inr (List.mem_append.2 (.inl hk)))
 have hsub3 : ∀ k ∈ (Value.slice r.aL r.txs.length r.cL).ownBlock.toList, k ∈ r.blocks := fun k hk => List.mem_append.2 (.inr (List.mem_append.2 (.inr hk)))
 have HX : Hid (_ ∧ _ ∧ _ ∧ _ ∧ _) := ⟨hd1, hd2, hsub1, hsub2, hsub3⟩
 have HBW : Hid (Below w.heap.size w W) := hbW
 have HAP : Hid (r.blocks.Nodup) := hap
 have HL : Hid _ := hl
 clear hsW hbW hd1 hd2 hsub1 hsub2 hsub3 hbl hap hlw ho hl
 simp only [RecA.cells] at *
 go_enter Tryz.func25, Tryz.ntmps25
 go_wp2_with fail
 rw [hW.out]
 clear hW b0
 refine C1.mono ?_
 clear C1
 rintro e w1 ⟨rfl, ho1, ht1⟩
 have T1 : Touch r.blocks W w1 := ht1.mono HX.out.2.2.1
 have b1 := HB.out w1 T1
 have c9 := b1.cell 9 _ rfl
 have c10 := b1.cell 10 _ rfl
 have c11 := b1.cell 11 _ rfl
 have c12 := b1.cell 12 _ rfl
 have hoA1 := SlotA.touch hoW.af ht1 (fun k hk h => (HX.out.1 k h).1 hk)
 have hoL1 := hoW.txs.touch ht1 (fun k hk h => (HX.out.1 k h).2 (Option.mem_toList.2 hk))
 have C2 := markSlot_touch r.af lo hi (k0 + r.bf.count) w1 hoA1 (by omega) HL.out.af.1 HL.out.af.2 (by have := HC.out.2.1; omega)
 simp only [SlotA.cells] at C2
 clear b1 ht1 hoA1
 go_wp2_with fail
 refine C2.mono ?_
 clear C2 c9 c10 c11 c12
 rintro e w2 ⟨rfl, ho2, ht2⟩
 have T2 : Touch r.blocks W w2 := T1.trans (ht2.mono HX.out.2.2.2.1)
 have b2 := HB.out w2 T2
 have c14 := b2.cell 14 _ rfl
 have hoB2 := SlotA.touch ho1 ht2 (fun k hk h => by rw [mark_blocks] at hk; exact (HX.out.1 k hk).1 h)
 have hoL2 := hoL1.touch ht2 (fun k hk h => HX.out.2.1 k h (Option.mem_toList.2 hk))
 have C3 := markLiveS_own lo hi r.aL r.cL (k0 + r.bf.count + r.af.count) r.txs w2 hoL2 (by omega) (by have := HC.out.2; have := HL.out.txs; omega)
 clear b2 ht2 hoL1 ho1 T1 hoL2
 go_wp2_with fail
 refine C3.mono ?_
 clear C3 c14
 rintro e w3 ⟨rfl, ho3, ht3⟩
 have T3 : Touch r.blocks W w3 := T2.trans (ht3.mono HX.out.2.2.2.2)
 have hoB3 := SlotA.touch hoB2 ht3 (fun k hk h => by rw [mark_blocks] at hk; exact (HX.out.1 k hk).2 h)
 have hoA3 := SlotA.touch ho2 ht3 (fun k hk h => by rw [mark_blocks] at hk; exact HX.out.2.1 k hk h)
 clear hoB2 ho2 ht3 T2
 go_wp2
 go_ret
 refine ⟨ret_int (by have := HC.out.1; omega), ⟨hoB3, hoA3, ?_, ?_⟩, (Touch.of_below HBW.out).trans T3⟩
 ·exact ho3
 ·rw [markR_blocks]; exact HAP.out
theorem lawAppend_walk (p : LogA) (r : RecA) (w : World) (hg : ErrT w) (hinP : InLog w p) (hin : InRec w r) :
  Calls Tryz.prog 5 #[.agg p.cells.toArray, .agg r.cells.toArray] w fun e w' => e = .returned (.bool true) ∧ Below w.heap.size w w' := by
 obtain ⟨W, hW, bx2, bx3, hbW, hsW⟩ := boxes2 w p.cells r.cells 46 52
 have hsm : p.short 9223372036854775807 := hinP.short
 have hrd : p.reads w := hinP.reads
 have hRp : ∀ u, Below W.heap.size W u → p.reads u := fun u hh => hrd.below (hbW.trans (hh.mono hbW.size))
 have hRd : ∀ u, Below W.heap.size W u → r.reads u := fun u hh => hin.reads.below (hbW.trans (hh.mono hbW.size))
 have hgB : ∀ u, Below W.heap.size W u → ErrT u := fun u hh => hg.keep (hbW.trans (hh.mono hbW.size))
 have BW : Below W.heap.size W W := Below.refl _ _
 have HSH : Hid (_) := hin.short
 have HSP : Hid (∀ (ts : LogA) (u : RecA) (x : World) {l1 h1 l2 h2 : Nat}, ts.v = p.v → u.v = r.v → ts.own x l1 h1 → ts.short 1048576 → u.own x l2 h2 → u.short 1099511627776 → Calls Tryz.prog 16 #[.agg ts.cells.toArray, .agg u.cells.toArray] x fun e x' => LogAns x x' (appendOf p.v r.v).1 (appendOf p.v r.v).2 e) := fun ts u x l1 h1' l2 h2' h1 h2 a b c d => by
  refine (specAppend_any ts u x a.reads b (OwnRs.caps a) c.reads d c.txs.nocap).mono ?_
  rintro e x' ⟨t, n, rfl, hv, ho, hb⟩
  rw [h1, h2] at hv
  exact ⟨t, by rw [← hv.out], by rw [Hid, ← hv.out], ho, hb⟩
 have HIM : Hid (∀ (ts : LogA) (u : RecA) (x : World) {l1 h1 l2 h2 : Nat}, ErrT x → ts.v = p.v → u.v = r.v → ts.own x l1 h1 → ts.short 1048576 → u.own x l2 h2 → u.short 1099511627776 → Calls Tryz.prog 15 #[.agg ts.cells.toArray, .agg u.cells.toArray] x fun e x' => LogAns x x' (appendOf p.v r.v).1 (appendOf p.v r.v).2 e) := fun ts u x l1 h1' l2 h2' g h1 h2 a b c d => by
  refine (implAppend_any ts u x g a.reads b (OwnRs.caps a) c.reads d c.txs.nocap).mono ?_
  rintro e x' ⟨t, n, rfl, hv, ho, hb⟩
  rw [h1, h2] at hv
  exact ⟨t, by rw [← hv.out], by rw [Hid, ← hv.out], ho, hb⟩
 have HSM : Hid ((r.short 1048576) → p.short 1048576 → ∀ ts : LogA, ts.v = (appendOf p.v r.v).1 → ts.short 1048576) := fun h1 h2 ts h3 => append_short h3 h2 h1 (by have := append_len p r.v h2.len; rw [← h3, ts.v_len] at this; exact this)
 generalize (appendOf p.v r.v).1 = RO at *
 generalize (appendOf p.v r.v).2 = RK at *
 have hW0 := bx3.lt
 clear hsW hin hinP
 go_enter Tryz.func5, Tryz.ntmps5
 go_wp2_with (first | (guard_target = wpList _ _ _ (Oper.mk (some 17) _ _ _ _ _ :: _) _ _; refine wpList_load_mid rfl 46 (.tmp 2) rfl w.heap.size 0 rfl p.cells _ (by rw [hW.out]; exact log_rng p bx2) Tryz.underlying46 rfl (llog_info p) ?_) | fail)
 rw [hW.out]
 clear hW
 refine (szLog_any p 1048576 W (hRp W BW) hsm (by omega)).mono ?_
 rintro e w1 ⟨z, rfl, hz, hb1⟩
 replace bx2 := bx2.below hb1 bx2.lt
 replace bx3 := bx3.below hb1 bx3.lt
 replace BW := BW.trans (hb1.mono BW.size)
 have s1 := hb1.size
 rcases hz with hneg | ⟨hz0, hzl, hl⟩
 ·go_wp2
  go_ret
  exact ⟨rfl, hbW.trans (BW.mono hbW.size)⟩
 have hzn : ¬ z < 0 := by omega
 go_wp2_with (first | (guard_target = wpList _ _ _ (Oper.mk (some 22) _ _ _ _ _ :: _) _ _; refine wpList_load_mid rfl 52 (.tmp 3) rfl (w.heap.size + 1) 0 rfl r.cells _ (rec_rng' r bx3) Tryz.underlying52 rfl (lrec_info' _) ?_) | fail)
 refine (szRec_any r z w1 HSH.out (by omega)).mono ?_
 rintro e w2 ⟨z2, rfl, hz2, hb2⟩
 replace bx2 := bx2.below hb2 bx2.lt
 replace bx3 := bx3.below hb2 bx3.lt
 replace BW := BW.trans (hb2.mono BW.size)
 have s2 := hb2.size
 rcases hz2 with hneg | ⟨hz20, _, hlr⟩
 ·go_wp2
  go_ret
  exact ⟨rfl, hbW.trans (BW.mono hbW.size)⟩
 have hzn2 : ¬ z2 < 0 := by omega
 have HU : Hid (_ ∧ _) := ⟨Tryz.underlying46, Tryz.underlying52⟩
 have HRG : Hid (∀ u, Below w2.heap.size w2 u → u.rangeAt w.heap.size 0 p.cells ∧ u.rangeAt (w.heap.size + 1) 0 r.cells) := fun u hu => ⟨log_rng p (bx2.below hu bx2.lt), rec_rng' r (bx3.below hu bx3.lt)⟩
 go_upto_region 8 with fail
 go_cut [6, 7] from 17 (fun a b wx => ∃ (Bx : Nat) (aw : LogA), a = .pointer (some ⟨Bx, 0, none⟩) ∧ b = .int .i64 RK ∧ Hid (aw.v = RO) ∧ Box wx Bx (LogA.cells aw) 26 ∧ LogA.own wx w2.heap.size wx.heap.size aw ∧ Below w2.heap.size w2 wx)
 case first =>
  have hu1 := HU.out.1
  have hu2 := HU.out.2
  have hi1 := llog_info p
  have hi2 := lrec_info' r
  have D0 : Below w2.heap.size w2 w2.drew := (Below.refl _ _).drew
  refine wp_region_held_drew (S := fun w' => w'.rangeAt w.heap.size 0 p.cells ∧ w'.rangeAt (w.heap.size + 1) 0 r.cells) (by kernel_rfl) (HRG.out _ D0) (fun hHeld => ?_)
  refine tk 0 rfl (yieldsIf_load_mid (by rfl) _ _ rfl _ _ rfl p.cells _ (fun _ h => h.1) hu1 rfl hi1) hHeld ?_
  go_simp
  refine tk 2 rfl (yieldsIf_load_mid (by rfl) _ _ rfl _ _ rfl r.cells _ (fun _ h => h.2) hu2 rfl hi2) hHeld ?_
  go_simp
  generalize hD : w2.drew = d0 at *
  refine wpAnyH_ready (rs := [1, 8]) (by kernel_rfl) (by simp) ?_
  refine AllReadyH.cons rfl (fun K hK => ?_) (AllReadyH.cons rfl (fun K hK => ?_) AllReadyH.nil)
  focus
   go_simp
   refine (toLog_any p _ (hRp _ (BW.trans (D0.mono BW.size))) hl).mono ?_
   rintro e d0a ⟨ts, rfl, hvt, hot, hba⟩
   have D0a : Below w2.heap.size w2 d0a := D0.trans (hba.mono D0.size)
   have z0 := hba.size
   refine hK.out _ _ (HRG.out _ D0a) (fun hHeld => ?_)
   clear hK K
   refine wpAnyH_ready (rs := [3, 8]) (by kernel_rfl) (by simp) ?_
   refine AllReadyH.cons rfl (fun K hK => ?_) (AllReadyH.cons rfl (fun K hK => ?_) AllReadyH.nil)
   focus
    go_simp
    refine (toRec_law r _ (hRd _ (BW.trans (D0a.mono BW.size))) hlr).mono ?_
    rintro e d0ab ⟨uu, rfl, hvu, hou, hbb⟩
    have D0ab : Below w2.heap.size w2 d0ab := D0a.trans (hbb.mono D0a.size)
    replace hot := hot.below hbb
    have z1 := hbb.size
    refine hK.out _ _ (HRG.out _ D0ab) (fun hHeld => ?_)
    clear hK K
    refine wpAnyH_ready (rs := [4, 8]) (by kernel_rfl) (by simp) ?_
    refine AllReadyH.cons rfl (fun K hK => ?_) (AllReadyH.cons rfl (fun K hK => ?_) AllReadyH.nil)
    focus
     go_simp
     refine (HSP.out ts uu _ hvt.out hvu.out hot (LogA.short_of hvt.out hl) hou (short_wide (short_of hvu.out hlr))).mono ?_
     rintro e d0abc ⟨aw, rfl, hva, hoa, hbc⟩
     have hoaN := hoa
     have D0abc : Below w2.heap.size w2 d0abc := D0ab.trans (hbc.mono D0ab.size)
     replace hoa : LogA.own d0abc w2.heap.size d0abc.heap.size aw := hoa.widen D0ab.size (Nat.le_refl _) (Nat.le_refl _)
     have z2 := hbc.size
     refine hK.out _ _ (HRG.out _ D0abc) (fun hHeld => ?_)
     clear hK K
     refine tk 5 (v := .tuple #[.agg (LogA.cells aw).toArray, .int .i64 RK]) rfl (Or.inl ⟨by rfl, fun w' _ => ?_⟩) hHeld ?_
     ·go_simp
     go_simp
     refine tk 6 (v := .agg (LogA.cells aw).toArray) rfl (Or.inl ⟨by rfl, fun w' _ => ?_⟩) hHeld ?_
     ·go_simp
     go_simp
     refine tk 7 (v := .int .i64 RK) rfl (Or.inl ⟨by rfl, fun w' _ => ?_⟩) hHeld ?_
     ·go_simp
     go_simp
     refine wpAnyH_ready (rs := [8]) (by kernel_rfl) (by simp) ?_
     refine AllReadyH.cons rfl (fun K hK => ?_) AllReadyH.nil
     go_simp
     obtain ⟨WA, hWA, bA0, hbA, _⟩ := boxes1 d0abc [.slice none 0 0, .int .i64 0] 26
     rw [hWA.out]
     have bA : Box WA d0abc.heap.size [.slice none 0 0, .int .i64 0] 26 := bA0
     have D0abcz : Below w2.heap.size w2 WA := D0abc.trans (hbA.mono D0abc.size)
     replace hoa : LogA.own WA w2.heap.size d0abc.heap.size aw := hoa.below hbA
     have hlast : d0abc.heap.size ≤ WA.heap.size := hbA.size
     refine hK.out _ _ (HRG.out _ D0abcz) (fun hHeld => ?_)
     clear hK K hWA bA0
     obtain ⟨WF, hWF, hwF, hsF, HTF, _, bF⟩ := log_out aw _ rfl bA
     have hltA := bA.lt
     have zD := D0abcz.size
     have zp2 := D0.size
     have zp3 := D0a.size
     have zp4 := D0ab.size
     have zp5 := D0abc.size
     have oF : LogA.own WF w2.heap.size WF.heap.size aw := (hoa.within hwF (by omega)).widen (Nat.le_refl _) (by omega) (Nat.le_refl _)
     have DF : Below w2.heap.size w2 WF := D0abcz.trans (hwF.below (by omega) (by omega))
     refine wpAnyH_ready (rs := [9]) (by kernel_rfl) (by simp) ?_
     refine AllReadyH.cons rfl (fun K hK => ?_) AllReadyH.nil
     rw [if_pos (by rfl)]
     refine wp_store_mid 26 (.tmp 6) (.tmp 33) rfl d0abc.heap.size 0 (LogA.cells aw).toArray rfl rfl HTF.out (by rw [List.size_toArray]; exact log_info _) (log_one _) ?_
     have HW : Hid ((WA).setCells d0abc.heap.size 0 (LogA.cells aw).toArray.toList = WF) := hWF.out
     rw [HW.out]
     refine hK.out _ _ (HRG.out _ DF) (fun hHeld => ?_)
     clear hK K HW hWF HTF hwF
     simp only [Act.put, zA, zB, zC]
     refine tk 10 (v := .int .i64 RK) rfl (Or.inl ⟨by rfl, fun w' _ => ?_⟩) hHeld ?_
     ·go_simp
     go_simp
     refine wpAnyH_done (by kernel_rfl) ?_ _
     clear hHeld
     go_wp2_with fail
     go_meet
     case rel => exact ⟨d0abc.heap.size, aw, rfl, rfl, hva, bF, oF, DF⟩
    focus
     go_simp
     obtain ⟨WA, hWA, bA0, hbA, _⟩ := boxes1 d0ab [.slice none 0 0, .int .i64 0] 26
     rw [hWA.out]
     have bA : Box WA d0ab.heap.size [.slice none 0 0, .int .i64 0] 26 := bA0
     have zA := hbA.size
     have hltA0 := bA.lt
     have D0abz : Below w2.heap.size w2 WA := D0ab.trans (hbA.mono D0ab.size)
     replace hot := hot.below hbA
     replace hou := hou.below hbA
     refine hK.out _ _ (HRG.out _ D0abz) (fun hHeld => ?_)
     clear hK K hWA bA0
     refine wpAnyH_ready (rs := [4]) (by kernel_rfl) (by simp) ?_
     refine AllReadyH.cons rfl (fun K hK => ?_) AllReadyH.nil
     go_simp
     refine (HSP.out ts uu _ hvt.out hvu.out hot (LogA.short_of hvt.out hl) hou (short_wide (short_of hvu.out hlr))).mono ?_
     rintro e WAc ⟨aw, rfl, hva, hoa, hbc⟩
     have hoaN := hoa
     have D0abzc : Below w2.heap.size w2 WAc := D0abz.trans (hbc.mono D0abz.size)
     replace hoa : LogA.own WAc w2.heap.size WAc.heap.size aw := hoa.widen D0abz.size (Nat.le_refl _) (Nat.le_refl _)
     replace bA := bA.below hbc bA.lt
     have z2 := hbc.size
     refine hK.out _ _ (HRG.out _ D0abzc) (fun hHeld => ?_)
     clear hK K
     refine tk 5 (v := .tuple #[.agg (LogA.cells aw).toArray, .int .i64 RK]) rfl (Or.inl ⟨by rfl, fun w' _ => ?_⟩) hHeld ?_
     ·go_simp
     go_simp
     refine tk 6 (v := .agg (LogA.cells aw).toArray) rfl (Or.inl ⟨by rfl, fun w' _ => ?_⟩) hHeld ?_
     ·go_simp
     go_simp
     refine tk 7 (v := .int .i64 RK) rfl (Or.inl ⟨by rfl, fun w' _ => ?_⟩) hHeld ?_
     ·go_simp
     go_simp
     have hlast : WAc.heap.size ≤ WAc.heap.size := Nat.le_refl _
     obtain ⟨WF, hWF, hwF, hsF, HTF, _, bF⟩ := log_out aw _ rfl bA
     have hltA := bA.lt
     have zD := D0abzc.size
     have zp2 := D0.size
     have zp3 := D0a.size
     have zp4 := D0ab.size
     have zp5 := D0abz.size
     have oF : LogA.own WF w2.heap.size WF.heap.size aw := (hoaN.within hwF (by omega)).widen (by omega) (by omega) (Nat.le_refl _)
     have DF : Below w2.heap.size w2 WF := D0abzc.trans (hwF.below (by omega) (by omega))
     refine wpAnyH_ready (rs := [9]) (by kernel_rfl) (by simp) ?_
     refine AllReadyH.cons rfl (fun K hK => ?_) AllReadyH.nil
     rw [if_pos (by rfl)]
     refine wp_store_mid 26 (.tmp 6) (.tmp 33) rfl d0ab.heap.size 0 (LogA.cells aw).toArray rfl rfl HTF.out (by rw [List.size_toArray]; exact log_info _) (log_one _) ?_
     have HW : Hid ((WAc).setCells d0ab.heap.size 0 (LogA.cells aw).toArray.toList = WF) := hWF.out
     rw [HW.out]
     refine hK.out _ _ (HRG.out _ DF) (fun hHeld => ?_)
     clear hK K HW hWF HTF hwF
     simp only [Act.put, zA, zB, zC]
     refine tk 10 (v := .int .i64 RK) rfl (Or.inl ⟨by rfl, fun w' _ => ?_⟩) hHeld ?_
     ·go_simp
     go_simp
     refine wpAnyH_done (by kernel_rfl) ?_ _
     clear hHeld
     go_wp2_with fail
     go_meet
     case rel => exact ⟨d0ab.heap.size, aw, rfl, rfl, hva, bF, oF, DF⟩
   focus
    go_simp
    obtain ⟨WA, hWA, bA0, hbA, _⟩ := boxes1 d0a [.slice none 0 0, .int .i64 0] 26
    rw [hWA.out]
    have bA : Box WA d0a.heap.size [.slice none 0 0, .int .i64 0] 26 := bA0
    have zA := hbA.size
    have hltA0 := bA.lt
    have D0az : Below w2.heap.size w2 WA := D0a.trans (hbA.mono D0a.size)
    replace hot := hot.below hbA
    refine hK.out _ _ (HRG.out _ D0az) (fun hHeld => ?_)
    clear hK K hWA bA0
    refine wpAnyH_ready (rs := [3]) (by kernel_rfl) (by simp) ?_
    refine AllReadyH.cons rfl (fun K hK => ?_) AllReadyH.nil
    go_simp
    refine (toRec_law r _ (hRd _ (BW.trans (D0az.mono BW.size))) hlr).mono ?_
    rintro e WAb ⟨uu, rfl, hvu, hou, hbb⟩
    have D0azb : Below w2.heap.size w2 WAb := D0az.trans (hbb.mono D0az.size)
    replace hot := hot.below hbb
    replace bA := bA.below hbb bA.lt
    have z1 := hbb.size
    refine hK.out _ _ (HRG.out _ D0azb) (fun hHeld => ?_)
    clear hK K
    refine wpAnyH_ready (rs := [4]) (by kernel_rfl) (by simp) ?_
    refine AllReadyH.cons rfl (fun K hK => ?_) AllReadyH.nil
    go_simp
    refine (HSP.out ts uu _ hvt.out hvu.out hot (LogA.short_of hvt.out hl) hou (short_wide (short_of hvu.out hlr))).mono ?_
    rintro e WAbc ⟨aw, rfl, hva, hoa, hbc⟩
    have hoaN := hoa
    have D0azbc : Below w2.heap.size w2 WAbc := D0azb.trans (hbc.mono D0azb.size)
    replace hoa : LogA.own WAbc w2.heap.size WAbc.heap.size aw := hoa.widen D0azb.size (Nat.le_refl _) (Nat.le_refl _)
    replace bA := bA.below hbc bA.lt
    have z2 := hbc.size
    refine hK.out _ _ (HRG.out _ D0azbc) (fun hHeld => ?_)
    clear hK K
    refine tk 5 (v := .tuple #[.agg (LogA.cells aw).toArray, .int .i64 RK]) rfl (Or.inl ⟨by rfl, fun w' _ => ?_⟩) hHeld ?_
    ·go_simp
    go_simp
    refine tk 6 (v := .agg (LogA.cells aw).toArray) rfl (Or.inl ⟨by rfl, fun w' _ => ?_⟩) hHeld ?_
    ·go_simp
    go_simp
    refine tk 7 (v := .int .i64 RK) rfl (Or.inl ⟨by rfl, fun w' _ => ?_⟩) hHeld ?_
    ·go_simp
    go_simp
    have hlast : WAbc.heap.size ≤ WAbc.heap.size := Nat.le_refl _
    obtain ⟨WF, hWF, hwF, hsF, HTF, _, bF⟩ := log_out aw _ rfl bA
    have hltA := bA.lt
    have zD := D0azbc.size
    have zp2 := D0.size
    have zp3 := D0a.size
    have zp4 := D0az.size
    have zp5 := D0azb.size
    have oF : LogA.own WF w2.heap.size WF.heap.size aw := (hoaN.within hwF (by omega)).widen (by omega) (by omega) (Nat.le_refl _)
    have DF : Below w2.heap.size w2 WF := D0azbc.trans (hwF.below (by omega) (by omega))
    refine wpAnyH_ready (rs := [9]) (by kernel_rfl) (by simp) ?_
    refine AllReadyH.cons rfl (fun K hK => ?_) AllReadyH.nil
    rw [if_pos (by rfl)]
    refine wp_store_mid 26 (.tmp 6) (.tmp 33) rfl d0a.heap.size 0 (LogA.cells aw).toArray rfl rfl HTF.out (by rw [List.size_toArray]; exact log_info _) (log_one _) ?_
    have HW : Hid ((WAbc).setCells d0a.heap.size 0 (LogA.cells aw).toArray.toList = WF) := hWF.out
    rw [HW.out]
    refine hK.out _ _ (HRG.out _ DF) (fun hHeld => ?_)
    clear hK K HW hWF HTF hwF
    simp only [Act.put, zA, zB, zC]
    refine tk 10 (v := .int .i64 RK) rfl (Or.inl ⟨by rfl, fun w' _ => ?_⟩) hHeld ?_
    ·go_simp
    go_simp
    refine wpAnyH_done (by kernel_rfl) ?_ _
    clear hHeld
    go_wp2_with fail
    go_meet
    case rel => exact ⟨d0a.heap.size, aw, rfl, rfl, hva, bF, oF, DF⟩
  focus
   go_simp
   obtain ⟨WA, hWA, bA0, hbA, _⟩ := boxes1 d0 [.slice none 0 0, .int .i64 0] 26
   rw [hWA.out]
   have bA : Box WA d0.heap.size [.slice none 0 0, .int .i64 0] 26 := bA0
   have zA := hbA.size
   have hltA0 := bA.lt
   have D0z : Below w2.heap.size w2 WA := D0.trans (hbA.mono D0.size)
   refine hK.out _ _ (HRG.out _ D0z) (fun hHeld => ?_)
   clear hK K hWA bA0
   refine wpAnyH_ready (rs := [1]) (by kernel_rfl) (by simp) ?_
   refine AllReadyH.cons rfl (fun K hK => ?_) AllReadyH.nil
   go_simp
   refine (toLog_any p _ (hRp _ (BW.trans (D0z.mono BW.size))) hl).mono ?_
   rintro e WAa ⟨ts, rfl, hvt, hot, hba⟩
   have D0za : Below w2.heap.size w2 WAa := D0z.trans (hba.mono D0z.size)
   replace bA := bA.below hba bA.lt
   have z0 := hba.size
   refine hK.out _ _ (HRG.out _ D0za) (fun hHeld => ?_)
   clear hK K
   refine wpAnyH_ready (rs := [3]) (by kernel_rfl) (by simp) ?_
   refine AllReadyH.cons rfl (fun K hK => ?_) AllReadyH.nil
   go_simp
   refine (toRec_law r _ (hRd _ (BW.trans (D0za.mono BW.size))) hlr).mono ?_
   rintro e WAab ⟨uu, rfl, hvu, hou, hbb⟩
   have D0zab : Below w2.heap.size w2 WAab := D0za.trans (hbb.mono D0za.size)
   replace hot := hot.below hbb
   replace bA := bA.below hbb bA.lt
   have z1 := hbb.size
   refine hK.out _ _ (HRG.out _ D0zab) (fun hHeld => ?_)
   clear hK K
   refine wpAnyH_ready (rs := [4]) (by kernel_rfl) (by simp) ?_
   refine AllReadyH.cons rfl (fun K hK => ?_) AllReadyH.nil
   go_simp
   refine (HSP.out ts uu _ hvt.out hvu.out hot (LogA.short_of hvt.out hl) hou (short_wide (short_of hvu.out hlr))).mono ?_
   rintro e WAabc ⟨aw, rfl, hva, hoa, hbc⟩
   have hoaN := hoa
   have D0zabc : Below w2.heap.size w2 WAabc := D0zab.trans (hbc.mono D0zab.size)
   replace hoa : LogA.own WAabc w2.heap.size WAabc.heap.size aw := hoa.widen D0zab.size (Nat.le_refl _) (Nat.le_refl _)
   replace bA := bA.below hbc bA.lt
   have z2 := hbc.size
   refine hK.out _ _ (HRG.out _ D0zabc) (fun hHeld => ?_)
   clear hK K
   refine tk 5 (v := .tuple #[.agg (LogA.cells aw).toArray, .int .i64 RK]) rfl (Or.inl ⟨by rfl, fun w' _ => ?_⟩) hHeld ?_
   ·go_simp
   go_simp
   refine tk 6 (v := .agg (LogA.cells aw).toArray) rfl (Or.inl ⟨by rfl, fun w' _ => ?_⟩) hHeld ?_
   ·go_simp
   go_simp
   refine tk 7 (v := .int .i64 RK) rfl (Or.inl ⟨by rfl, fun w' _ => ?_⟩) hHeld ?_
   ·go_simp
   go_simp
   have hlast : WAabc.heap.size ≤ WAabc.heap.size := Nat.le_refl _
   obtain ⟨WF, hWF, hwF, hsF, HTF, _, bF⟩ := log_out aw _ rfl bA
   have hltA := bA.lt
   have zD := D0zabc.size
   have zp2 := D0.size
   have zp3 := D0z.size
   have zp4 := D0za.size
   have zp5 := D0zab.size
   have oF : LogA.own WF w2.heap.size WF.heap.size aw := (hoaN.within hwF (by omega)).widen (by omega) (by omega) (Nat.le_refl _)
   have DF : Below w2.heap.size w2 WF := D0zabc.trans (hwF.below (by omega) (by omega))
   refine wpAnyH_ready (rs := [9]) (by kernel_rfl) (by simp) ?_
   refine AllReadyH.cons rfl (fun K hK => ?_) AllReadyH.nil
   rw [if_pos (by rfl)]
   refine wp_store_mid 26 (.tmp 6) (.tmp 33) rfl d0.heap.size 0 (LogA.cells aw).toArray rfl rfl HTF.out (by rw [List.size_toArray]; exact log_info _) (log_one _) ?_
   have HW : Hid ((WAabc).setCells d0.heap.size 0 (LogA.cells aw).toArray.toList = WF) := hWF.out
   rw [HW.out]
   refine hK.out _ _ (HRG.out _ DF) (fun hHeld => ?_)
   clear hK K HW hWF HTF hwF
   simp only [Act.put, zA, zB, zC]
   refine tk 10 (v := .int .i64 RK) rfl (Or.inl ⟨by rfl, fun w' _ => ?_⟩) hHeld ?_
   ·go_simp
   go_simp
   refine wpAnyH_done (by kernel_rfl) ?_ _
   clear hHeld
   go_wp2_with fail
   go_meet
   case rel => exact ⟨d0.heap.size, aw, rfl, rfl, hva, bF, oF, DF⟩
 case rest =>
  obtain ⟨B6, tw, rfl, rfl, HVW, bx6, ow, hb3⟩ := hcut
  generalize wc = w3 at *
  replace bx2 := bx2.below hb3 bx2.lt
  replace bx3 := bx3.below hb3 bx3.lt
  replace BW := BW.trans (hb3.mono BW.size)
  have s3 := hb3.size
  have l6 := bx6.lt
  clear HRG
  go_wp2_with (first | (guard_target = wpList _ _ _ (Oper.mk (some 35) _ _ _ _ _ :: _) _ _; refine wpList_load_mid rfl 46 (.tmp 2) rfl w.heap.size 0 rfl p.cells _ (log_rng p bx2) Tryz.underlying46 rfl (llog_info p) ?_) | fail)
  refine (toLog_any p w3 (hRp _ BW) hl).mono ?_
  rintro e w4 ⟨qs, rfl, hvq, oq, hb4⟩
  have hqS := LogA.short_of hvq.out hl
  replace bx2 := bx2.below hb4 bx2.lt
  replace bx3 := bx3.below hb4 bx3.lt
  replace bx6 := bx6.below hb4 bx6.lt
  replace ow := ow.below hb4
  replace BW := BW.trans (hb4.mono BW.size)
  have s4 := hb4.size
  obtain ⟨Zw5, hZw5, bZw50, hbZw5, _⟩ := boxes1 w4 [.slice none 0 0, .int .i64 0] 26
  have bZw5 : Box Zw5 w4.heap.size [.slice none 0 0, .int .i64 0] 26 := bZw50
  obtain ⟨w5, hSw5, hww5, hzw5, HTw5, _, bx8⟩ := log_out qs _ rfl bZw5
  clear bZw50
  have hbw5 : Below w4.heap.size w4 w5 := hbZw5.trans (hww5.below (Nat.le_refl _) (by have := hbZw5.size; omega))
  clear bZw5 hbZw5 hww5 hzw5
  replace bx2 := bx2.below hbw5 bx2.lt
  replace bx3 := bx3.below hbw5 bx3.lt
  replace bx6 := bx6.below hbw5 bx6.lt
  replace ow := ow.below hbw5
  replace oq := oq.below hbw5
  replace BW := BW.trans (hbw5.mono BW.size)
  have sw5 := hbw5.size
  have lw5 := bx8.lt
  go_wp2_with (first | (guard_target = wpList _ _ _ (Oper.mk none (Op.store _ (Operand.tmp 8) _) _ _ _ _ :: _) _ _; refine wpList_store_mid rfl 26 (.tmp 8) (.tmp 36) rfl w4.heap.size 0 (LogA.cells qs).toArray rfl rfl (by rw [hZw5.out]; exact HTw5.out) (by rw [List.size_toArray]; exact log_info _) (log_one _) ?_) | (guard_target = wpList _ _ _ (Oper.mk (some 37) _ _ _ _ _ :: _) _ _; refine wpList_load_mid rfl 52 (.tmp 3) rfl (w.heap.size + 1) 0 rfl r.cells _ (by rw [hZw5.out, hSw5.out]; exact rec_rng' r bx3) Tryz.underlying52 rfl (lrec_info' _) ?_) | fail)
  rw [hZw5.out, hSw5.out]
  clear hZw5 hSw5 HTw5
  refine (toRec_law r w5 (hRd _ BW) hlr).mono ?_
  rintro e w6 ⟨u, rfl, hvu, ou, hb6⟩
  have huS := short_of hvu.out hlr
  replace bx2 := bx2.below hb6 bx2.lt
  replace bx3 := bx3.below hb6 bx3.lt
  replace bx6 := bx6.below hb6 bx6.lt
  replace bx8 := bx8.below hb6 bx8.lt
  replace ow := ow.below hb6
  replace oq := oq.below hb6
  replace BW := BW.trans (hb6.mono BW.size)
  have s6 := hb6.size
  obtain ⟨Zw7, hZw7, bZw7, hbZw7, _⟩ := boxes1 w6 [.int .i64 0, .int .i64 0, .int .i64 0, .int .i64 0, .int .i64 0, .bool false, .int .i64 0, .slice none 0 0, .slice none 0 0, .bool false, .int .i64 0, .slice none 0 0, .slice none 0 0, .int .i64 0, .slice none 0 0] 39
  obtain ⟨w7, hSw7, hww7, hzw7, HTw7, _, bx9⟩ := rec_out u [.int .i64 0, .int .i64 0, .int .i64 0, .int .i64 0, .int .i64 0, .bool false, .int .i64 0, .slice none 0 0, .slice none 0 0, .bool false, .int .i64 0, .slice none 0 0, .slice none 0 0, .int .i64 0, .slice none 0 0] rfl bZw7
  have hbw7 : Below w6.heap.size w6 w7 := hbZw7.trans (hww7.below (Nat.le_refl _) (by have := hbZw7.size; omega))
  clear bZw7 hbZw7 hww7 hzw7
  replace bx2 := bx2.below hbw7 bx2.lt
  replace bx3 := bx3.below hbw7 bx3.lt
  replace bx6 := bx6.below hbw7 bx6.lt
  replace bx8 := bx8.below hbw7 bx8.lt
  replace ow := ow.below hbw7
  replace oq := oq.below hbw7
  replace ou := ou.below hbw7
  replace BW := BW.trans (hbw7.mono BW.size)
  have sw7 := hbw7.size
  have lw7 := bx9.lt
  go_wp2_with (first | (guard_target = wpList _ _ _ (Oper.mk none (Op.store _ (Operand.tmp 9) _) _ _ _ _ :: _) _ _; refine wpList_store_mid rfl 39 (.tmp 9) (.tmp 38) rfl w6.heap.size 0 u.cells.toArray rfl rfl (by rw [hZw7.out]; exact HTw7.out) (by rw [List.size_toArray]; exact rec_info _) (rec_one _) ?_) | (guard_target = wpList _ _ _ (Oper.mk (some 40) _ _ _ _ _ :: _) _ _; refine wpList_load_mid rfl 26 (.tmp 8) rfl w4.heap.size 0 rfl (LogA.cells qs) _ (by rw [hZw7.out, hSw7.out]; exact log_rng _ bx8) Tryz.underlying26 rfl (log_info _) ?_) | (guard_target = wpList _ _ _ (Oper.mk (some 41) _ _ _ _ _ :: _) _ _; refine wpList_load_mid rfl 39 (.tmp 9) rfl w6.heap.size 0 rfl u.cells _ (by rw [hZw7.out, hSw7.out]; exact rec_rng' u bx9) Tryz.underlying39 rfl (rec_info _) ?_) | fail)
  rw [hZw7.out, hSw7.out]
  clear hZw7 hSw7 HTw7
  refine (HIM.out qs u w7 (hgB _ BW) hvq.out hvu.out oq hqS ou (short_wide huS)).mono ?_
  rintro e w8 ⟨tg, rfl, HVG, og, hb8⟩
  have hgS := HSM.out hlr hl tg HVG.out
  replace bx2 := bx2.below hb8 bx2.lt
  replace bx3 := bx3.below hb8 bx3.lt
  replace bx6 := bx6.below hb8 bx6.lt
  replace bx8 := bx8.below hb8 bx8.lt
  replace bx9 := bx9.below hb8 bx9.lt
  replace ow := ow.below hb8
  replace oq := oq.below hb8
  replace ou := ou.below hb8
  replace BW := BW.trans (hb8.mono BW.size)
  have s8 := hb8.size
  obtain ⟨Zw9, hZw9, bZw90, hbZw9, _⟩ := boxes1 w8 [.slice none 0 0, .int .i64 0] 26
  have bZw9 : Box Zw9 w8.heap.size [.slice none 0 0, .int .i64 0] 26 := bZw90
  obtain ⟨w9, hSw9, hww9, hzw9, HTw9, _, bx10⟩ := log_out tg _ rfl bZw9
  clear bZw90
  have hbw9 : Below w8.heap.size w8 w9 := hbZw9.trans (hww9.below (Nat.le_refl _) (by have := hbZw9.size; omega))
  clear bZw9 hbZw9 hww9 hzw9
  replace bx2 := bx2.below hbw9 bx2.lt
  replace bx3 := bx3.below hbw9 bx3.lt
  replace bx6 := bx6.below hbw9 bx6.lt
  replace bx8 := bx8.below hbw9 bx8.lt
  replace bx9 := bx9.below hbw9 bx9.lt
  replace ow := ow.below hbw9
  replace oq := oq.below hbw9
  replace ou := ou.below hbw9
  replace og := og.below hbw9
  replace BW := BW.trans (hbw9.mono BW.size)
  have sw9 := hbw9.size
  have lw9 := bx10.lt
  have HGW : Hid (tw.v = tg.v) := HVW.out.trans HVG.out.symm
  go_wp2_with (first | (guard_target = wpList _ _ _ (Oper.mk none (Op.store _ (Operand.tmp 10) _) _ _ _ _ :: _) _ _; refine wpList_store_mid rfl 26 (.tmp 10) (.tmp 43) rfl w8.heap.size 0 (LogA.cells tg).toArray rfl rfl (by rw [hZw9.out]; exact HTw9.out) (by rw [List.size_toArray]; exact log_info _) (log_one _) ?_) | (guard_target = wpList _ _ _ (Oper.mk (some 45) _ _ _ _ _ :: _) _ _; refine wpList_load_mid rfl 26 (.tmp 10) rfl w8.heap.size 0 rfl (LogA.cells tg) _ (by rw [hZw9.out, hSw9.out]; exact log_rng _ bx10) Tryz.underlying26 rfl (log_info _) ?_) | (guard_target = wpList _ _ _ (Oper.mk (some 46) _ _ _ _ _ :: _) _ _; refine wpList_load_mid rfl 26 (.tmp 6) rfl B6 0 rfl (LogA.cells tw) _ (by rw [hZw9.out, hSw9.out]; exact log_rng _ bx6) Tryz.underlying26 rfl (log_info _) ?_) | fail)
  rw [hZw9.out, hSw9.out]
  clear hZw9 hSw9 HTw9
  refine (eqLog_same tg tw HGW.out w9 og.reads ow.reads (LogA.short_wide hgS)).mono ?_
  rintro e w10 ⟨rfl, hb10⟩
  replace bx2 := bx2.below hb10 bx2.lt
  replace bx3 := bx3.below hb10 bx3.lt
  replace bx6 := bx6.below hb10 bx6.lt
  replace bx8 := bx8.below hb10 bx8.lt
  replace bx9 := bx9.below hb10 bx9.lt
  replace bx10 := bx10.below hb10 bx10.lt
  replace ow := ow.below hb10
  replace oq := oq.below hb10
  replace ou := ou.below hb10
  replace og := og.below hb10
  replace BW := BW.trans (hb10.mono BW.size)
  have s10 := hb10.size
  have hrk : (RK != RK) = false := by simp
  have HU2 : Hid (_ ∧ _) := ⟨Tryz.underlying26, Tryz.underlying39⟩
  have HRG : Hid (∀ u, Below w10.heap.size w10 u → u.rangeAt w.heap.size 0 p.cells ∧ u.rangeAt w4.heap.size 0 (LogA.cells qs)) := fun u hu => ⟨log_rng p (bx2.below hu bx2.lt), log_rng _ (bx8.below hu bx8.lt)⟩
  have hu1 := HU.out.1
  have hu2 := HU2.out.1
  have hi1 := llog_info p
  have hi2 := log_info qs
  go_wp2_with fail
  refine wp_region_held_drew (S := fun w' => w'.rangeAt w.heap.size 0 p.cells ∧ w'.rangeAt w4.heap.size 0 (LogA.cells qs)) (by kernel_rfl) (HRG.out _ (Below.refl _ _).drew) (fun hHeld => ?_)
  refine tk 0 rfl (yieldsIf_load_mid (by rfl) _ _ rfl _ _ rfl (LogA.cells qs) _ (fun _ h => h.2) hu2 rfl hi2) hHeld ?_
  refine tk 1 rfl (yieldsIf_load_mid (by rfl) _ _ rfl _ _ rfl p.cells _ (fun _ h => h.1) hu1 rfl hi1) hHeld ?_
  refine wpAnyH_ready (rs := [2]) (by kernel_rfl) (by simp) ?_
  refine AllReadyH.cons rfl (fun K hK => ?_) AllReadyH.nil
  go_simp
  refine (toLog_any p _ (hRp _ BW.drew) hl).mono ?_
  rintro e w11 ⟨vs, rfl, hvv, ov, hb11⟩
  have N11 : Below w10.heap.size w10 w11 := ((Below.refl _ _).drew).trans hb11
  refine hK.out _ _ (HRG.out _ N11) (fun hHeld => ?_)
  clear hK K
  refine wpAnyH_ready (rs := [3]) (by kernel_rfl) (by simp) ?_
  refine AllReadyH.cons rfl (fun K hK => ?_) AllReadyH.nil
  go_simp
  refine (eqLog_same qs vs (hvv.out.trans hvq.out.symm) w11 (oq.reads.below N11) ov.reads (LogA.short_wide hqS)).mono ?_
  rintro e w12 ⟨rfl, hb12⟩
  have N12 : Below w10.heap.size w10 w12 := N11.trans (hb12.mono N11.size)
  refine hK.out _ _ (HRG.out _ N12) (fun hHeld => ?_)
  clear hK K
  refine tk 4 (v := .bool false) rfl (Or.inl ⟨by rfl, ?_⟩) hHeld ?_
  ·intro w' _; go_simp
  refine wpAnyH_done (by kernel_rfl) ?_ _
  clear hHeld hb11 hb12 ov hvv HRG N11 hu1 hu2 hi1 hi2
  replace bx2 := bx2.below N12 bx2.lt
  replace bx3 := bx3.below N12 bx3.lt
  replace bx6 := bx6.below N12 bx6.lt
  replace bx8 := bx8.below N12 bx8.lt
  replace bx9 := bx9.below N12 bx9.lt
  replace bx10 := bx10.below N12 bx10.lt
  replace ow := ow.below N12
  replace oq := oq.below N12
  replace ou := ou.below N12
  replace og := og.below N12
  replace BW := BW.trans (N12.mono BW.size)
  have s12 := N12.size
  clear N12
  have HRG : Hid (∀ x, Below w12.heap.size w12 x → x.rangeAt (w.heap.size + 1) 0 r.cells ∧ x.rangeAt w6.heap.size 0 u.cells) := fun x hx => ⟨rec_rng' r (bx3.below hx bx3.lt), rec_rng' u (bx9.below hx bx9.lt)⟩
  have hu1 := HU.out.2
  have hu2 := HU2.out.2
  have hi1 := lrec_info' r
  have hi2 := rec_info u
  go_wp2_with fail
  refine wp_region_held_drew (S := fun w' => w'.rangeAt (w.heap.size + 1) 0 r.cells ∧ w'.rangeAt w6.heap.size 0 u.cells) (by kernel_rfl) (HRG.out _ (Below.refl _ _).drew) (fun hHeld => ?_)
  refine tk 0 rfl (yieldsIf_load_mid (by rfl) _ _ rfl _ _ rfl u.cells _ (fun _ h => h.2) hu2 rfl hi2) hHeld ?_
  refine tk 1 rfl (yieldsIf_load_mid (by rfl) _ _ rfl _ _ rfl r.cells _ (fun _ h => h.1) hu1 rfl hi1) hHeld ?_
  refine wpAnyH_ready (rs := [2]) (by kernel_rfl) (by simp) ?_
  refine AllReadyH.cons rfl (fun K hK => ?_) AllReadyH.nil
  go_simp
  refine (toRec_law r _ (hRd _ BW.drew) hlr).mono ?_
  rintro e w13 ⟨vs, rfl, hvv, ov, hb13⟩
  have N13 : Below w12.heap.size w12 w13 := ((Below.refl _ _).drew).trans hb13
  refine hK.out _ _ (HRG.out _ N13) (fun hHeld => ?_)
  clear hK K
  refine wpAnyH_ready (rs := [3]) (by kernel_rfl) (by simp) ?_
  refine AllReadyH.cons rfl (fun K hK => ?_) AllReadyH.nil
  go_simp
  refine (eqRec_same u vs (hvv.out.trans hvu.out.symm) w13 (ou.reads.below N13) ov.reads (short_wide huS)).mono ?_
  rintro e w14 ⟨rfl, hb14⟩
  have N14 : Below w12.heap.size w12 w14 := N13.trans (hb14.mono N13.size)
  refine hK.out _ _ (HRG.out _ N14) (fun hHeld => ?_)
  clear hK K
  refine tk 4 (v := .bool false) rfl (Or.inl ⟨by rfl, ?_⟩) hHeld ?_
  ·intro w' _; go_simp
  refine wpAnyH_done (by kernel_rfl) ?_ _
  clear hHeld hb13 hb14 ov hvv HRG N13 hu1 hu2 hi1 hi2
  replace bx2 := bx2.below N14 bx2.lt
  replace bx3 := bx3.below N14 bx3.lt
  replace bx6 := bx6.below N14 bx6.lt
  replace bx8 := bx8.below N14 bx8.lt
  replace bx9 := bx9.below N14 bx9.lt
  replace bx10 := bx10.below N14 bx10.lt
  replace ow := ow.below N14
  replace oq := oq.below N14
  replace ou := ou.below N14
  replace og := og.below N14
  replace BW := BW.trans (N14.mono BW.size)
  have s14 := N14.size
  clear N14
  go_wp2_with (first | (guard_target = wpList _ _ _ (Oper.mk (some 64) _ _ _ _ _ :: _) _ _; refine wpList_load_mid rfl 26 (.tmp 8) rfl w4.heap.size 0 rfl (LogA.cells qs) _ (log_rng _ bx8) Tryz.underlying26 rfl (log_info _) ?_) | fail)
  refine (markLog_touch qs w3.heap.size w4.heap.size 1 w14 oq (LogA.short_wide hqS) (by omega) (count_short hqS)).mono ?_
  rintro e w15 ⟨rfl, _, ht15⟩
  have hw15 : Within w3.heap.size w4.heap.size w14 w15 := ht15.within oq.blocks_lt
  have s15 := hw15.size
  replace bx2 := bx2.within hw15 (by omega)
  replace bx3 := bx3.within hw15 (by omega)
  replace bx6 := bx6.within hw15 (by omega)
  replace bx8 := bx8.within hw15 (by omega)
  replace bx9 := bx9.within hw15 (by omega)
  replace bx10 := bx10.within hw15 (by omega)
  replace ow := ow.within hw15 (by omega)
  replace ou := ou.within hw15 (by omega)
  replace og := og.within hw15 (by omega)
  replace BW := BW.trans (hw15.below (by have := BW.size; omega) (by have := BW.size; omega))
  clear ht15 hw15 oq
  have hcq : (qs.count : Int) ≤ 10995116277760 := count_mid hqS
  simp only
  generalize qs.count = cq at *
  go_wp2_with (first | (guard_target = wpList _ _ _ (Oper.mk (some 67) _ _ _ _ _ :: _) _ _; refine wpList_load_mid rfl 39 (.tmp 9) rfl w6.heap.size 0 rfl u.cells _ (rec_rng' u bx9) Tryz.underlying39 rfl (rec_info _) ?_) | fail)
  refine (markRec_wide u w5.heap.size w6.heap.size (1 + (cq : Int)) w15 ou (short_wide huS) (by omega) (by omega)).mono ?_
  rintro e w16 ⟨rfl, _, ht16⟩
  have hw16 : Within w5.heap.size w6.heap.size w15 w16 := ht16.within ou.blocks_lt
  have s16 := hw16.size
  replace bx2 := bx2.within hw16 (by omega)
  replace bx3 := bx3.within hw16 (by omega)
  replace bx6 := bx6.within hw16 (by omega)
  replace bx8 := bx8.within hw16 (by omega)
  replace bx9 := bx9.within hw16 (by omega)
  replace bx10 := bx10.within hw16 (by omega)
  replace ow := ow.within hw16 (by omega)
  replace og := og.within hw16 (by omega)
  replace BW := BW.trans (hw16.below (by have := BW.size; omega) (by have := BW.size; omega))
  have hcn : ¬ ((1 : Int) + (cq : Int) + (u.count : Int)) < 0 := by omega
  clear ht16 hw16 ou
  generalize u.count = cu at *
  go_wp2_with (first | (guard_target = wpList _ _ _ (Oper.mk (some 73) _ _ _ _ _ :: _) _ _; refine load_if (by rfl) 26 (.tmp 10) rfl w8.heap.size 0 rfl (LogA.cells tg) _ (log_rng _ bx10) Tryz.underlying26 rfl (log_info _) ?_) | (guard_target = wpList _ _ _ (Oper.mk (some 74) _ _ _ _ _ :: _) _ _; refine load_if (by rfl) 26 (.tmp 6) rfl B6 0 rfl (LogA.cells tw) _ (log_rng _ bx6) Tryz.underlying26 rfl (log_info _) ?_) | fail)
  refine (eqLog_same tg tw HGW.out w16 og.reads ow.reads (LogA.short_wide hgS)).mono ?_
  rintro e w17 ⟨rfl, hb17⟩
  replace bx2 := bx2.below hb17 bx2.lt
  replace bx3 := bx3.below hb17 bx3.lt
  replace bx6 := bx6.below hb17 bx6.lt
  replace bx8 := bx8.below hb17 bx8.lt
  replace bx9 := bx9.below hb17 bx9.lt
  replace bx10 := bx10.below hb17 bx10.lt
  replace ow := ow.below hb17
  replace og := og.below hb17
  replace BW := BW.trans (hb17.mono BW.size)
  have s17 := hb17.size
  go_wp2_with (first | (guard_target = wpList _ _ _ (Oper.mk (some 83) _ _ _ _ _ :: _) _ _; refine wpList_load_mid rfl 26 (.tmp 10) rfl w8.heap.size 0 rfl (LogA.cells tg) _ (log_rng _ bx10) Tryz.underlying26 rfl (log_info _) ?_) | fail)
  refine (markLog_touch tg w7.heap.size w8.heap.size 1 w17 og (LogA.short_wide hgS) (by omega) (count_short hgS)).mono ?_
  rintro e w18 ⟨rfl, og18, ht18⟩
  have hw18 : Within w7.heap.size w8.heap.size w17 w18 := ht18.within og.blocks_lt
  have s18 := hw18.size
  replace bx2 := bx2.within hw18 (by omega)
  replace bx3 := bx3.within hw18 (by omega)
  replace bx6 := bx6.within hw18 (by omega)
  replace bx8 := bx8.within hw18 (by omega)
  replace bx9 := bx9.within hw18 (by omega)
  replace bx10 := bx10.within hw18 (by omega)
  replace ow := ow.within hw18 (by omega)
  replace BW := BW.trans (hw18.below (by have := BW.size; omega) (by have := BW.size; omega))
  clear ht18 hw18 og
  go_wp2_with (first | (guard_target = wpList _ _ _ (Oper.mk (some 86) _ _ _ _ _ :: _) _ _; refine wpList_load_mid rfl 26 (.tmp 10) rfl w8.heap.size 0 rfl (LogA.cells tg) _ (log_rng _ bx10) Tryz.underlying26 rfl (log_info _) ?_) | fail)
  refine (heldLog_any tg w7.heap.size w8.heap.size 1 w18 og18 (by have := hgS.len; omega) (by omega) (count_short hgS)).mono ?_
  rintro e w19 ⟨rfl, hb19⟩
  replace bx2 := bx2.below hb19 bx2.lt
  replace bx3 := bx3.below hb19 bx3.lt
  replace bx6 := bx6.below hb19 bx6.lt
  replace bx8 := bx8.below hb19 bx8.lt
  replace bx9 := bx9.below hb19 bx9.lt
  replace bx10 := bx10.below hb19 bx10.lt
  replace ow := ow.below hb19
  replace og18 := og18.below hb19
  replace BW := BW.trans (hb19.mono BW.size)
  have s19 := hb19.size
  have hcn2 : ¬ ((1 : Int) + (tg.count : Int)) < 0 := by omega
  simp only
  have HRG : Hid (∀ u, Below w19.heap.size w19 u → u.rangeAt w.heap.size 0 p.cells ∧ u.rangeAt (w.heap.size + 1) 0 r.cells) := fun u hu => ⟨log_rng p (bx2.below hu bx2.lt), rec_rng' r (bx3.below hu bx3.lt)⟩
  go_upto_region 31 with fail
  go_cut [15, 16] from 17 (fun a b wx => ∃ (Bx : Nat) (aw : LogA), a = .pointer (some ⟨Bx, 0, none⟩) ∧ b = .int .i64 RK ∧ Hid (aw.v = RO) ∧ Box wx Bx (LogA.cells aw) 26 ∧ LogA.own wx w19.heap.size wx.heap.size aw ∧ Below w19.heap.size w19 wx)
  case first =>
   have hu1 := HU.out.1
   have hu2 := HU.out.2
   have hi1 := llog_info p
   have hi2 := lrec_info' r
   have D0 : Below w19.heap.size w19 w19.drew := (Below.refl _ _).drew
   refine wp_region_held_drew (S := fun w' => w'.rangeAt w.heap.size 0 p.cells ∧ w'.rangeAt (w.heap.size + 1) 0 r.cells) (by kernel_rfl) (HRG.out _ D0) (fun hHeld => ?_)
   refine tk 0 rfl (yieldsIf_load_mid (by rfl) _ _ rfl _ _ rfl p.cells _ (fun _ h => h.1) hu1 rfl hi1) hHeld ?_
   go_simp
   refine tk 2 rfl (yieldsIf_load_mid (by rfl) _ _ rfl _ _ rfl r.cells _ (fun _ h => h.2) hu2 rfl hi2) hHeld ?_
   go_simp
   generalize hD : w19.drew = d0 at *
   refine wpAnyH_ready (rs := [1, 8]) (by kernel_rfl) (by simp) ?_
   refine AllReadyH.cons rfl (fun K hK => ?_) (AllReadyH.cons rfl (fun K hK => ?_) AllReadyH.nil)
   focus
    go_simp
    refine (toLog_any p _ (hRp _ (BW.trans (D0.mono BW.size))) hl).mono ?_
    rintro e d0a ⟨ts, rfl, hvt, hot, hba⟩
    have D0a : Below w19.heap.size w19 d0a := D0.trans (hba.mono D0.size)
    have z0 := hba.size
    refine hK.out _ _ (HRG.out _ D0a) (fun hHeld => ?_)
    clear hK K
    refine wpAnyH_ready (rs := [3, 8]) (by kernel_rfl) (by simp) ?_
    refine AllReadyH.cons rfl (fun K hK => ?_) (AllReadyH.cons rfl (fun K hK => ?_) AllReadyH.nil)
    focus
     go_simp
     refine (toRec_law r _ (hRd _ (BW.trans (D0a.mono BW.size))) hlr).mono ?_
     rintro e d0ab ⟨uu, rfl, hvu, hou, hbb⟩
     have D0ab : Below w19.heap.size w19 d0ab := D0a.trans (hbb.mono D0a.size)
     replace hot := hot.below hbb
     have z1 := hbb.size
     refine hK.out _ _ (HRG.out _ D0ab) (fun hHeld => ?_)
     clear hK K
     refine wpAnyH_ready (rs := [4, 8]) (by kernel_rfl) (by simp) ?_
     refine AllReadyH.cons rfl (fun K hK => ?_) (AllReadyH.cons rfl (fun K hK => ?_) AllReadyH.nil)
     focus
      go_simp
      refine (HIM.out ts uu _ (hgB _ (BW.trans (D0ab.mono BW.size))) hvt.out hvu.out hot (LogA.short_of hvt.out hl) hou (short_wide (short_of hvu.out hlr))).mono ?_
      rintro e d0abc ⟨aw, rfl, hva, hoa, hbc⟩
      have hoaN := hoa
      have D0abc : Below w19.heap.size w19 d0abc := D0ab.trans (hbc.mono D0ab.size)
      replace hoa : LogA.own d0abc w19.heap.size d0abc.heap.size aw := hoa.widen D0ab.size (Nat.le_refl _) (Nat.le_refl _)
      have z2 := hbc.size
      refine hK.out _ _ (HRG.out _ D0abc) (fun hHeld => ?_)
      clear hK K
      refine tk 5 (v := .tuple #[.agg (LogA.cells aw).toArray, .int .i64 RK]) rfl (Or.inl ⟨by rfl, fun w' _ => ?_⟩) hHeld ?_
      ·go_simp
      go_simp
      refine tk 6 (v := .agg (LogA.cells aw).toArray) rfl (Or.inl ⟨by rfl, fun w' _ => ?_⟩) hHeld ?_
      ·go_simp
      go_simp
      refine tk 7 (v := .int .i64 RK) rfl (Or.inl ⟨by rfl, fun w' _ => ?_⟩) hHeld ?_
      ·go_simp
      go_simp
      refine wpAnyH_ready (rs := [8]) (by kernel_rfl) (by simp) ?_
      refine AllReadyH.cons rfl (fun K hK => ?_) AllReadyH.nil
      go_simp
      obtain ⟨WA, hWA, bA0, hbA, _⟩ := boxes1 d0abc [.slice none 0 0, .int .i64 0] 26
      rw [hWA.out]
      have bA : Box WA d0abc.heap.size [.slice none 0 0, .int .i64 0] 26 := bA0
      have D0abcz : Below w19.heap.size w19 WA := D0abc.trans (hbA.mono D0abc.size)
      replace hoa : LogA.own WA w19.heap.size d0abc.heap.size aw := hoa.below hbA
      have hlast : d0abc.heap.size ≤ WA.heap.size := hbA.size
      refine hK.out _ _ (HRG.out _ D0abcz) (fun hHeld => ?_)
      clear hK K hWA bA0
      obtain ⟨WF, hWF, hwF, hsF, HTF, _, bF⟩ := log_out aw _ rfl bA
      have hltA := bA.lt
      have zD := D0abcz.size
      have zp2 := D0.size
      have zp3 := D0a.size
      have zp4 := D0ab.size
      have zp5 := D0abc.size
      have oF : LogA.own WF w19.heap.size WF.heap.size aw := (hoa.within hwF (by omega)).widen (Nat.le_refl _) (by omega) (Nat.le_refl _)
      have DF : Below w19.heap.size w19 WF := D0abcz.trans (hwF.below (by omega) (by omega))
      refine wpAnyH_ready (rs := [9]) (by kernel_rfl) (by simp) ?_
      refine AllReadyH.cons rfl (fun K hK => ?_) AllReadyH.nil
      rw [if_pos (by rfl)]
      refine wp_store_mid 26 (.tmp 15) (.tmp 100) rfl d0abc.heap.size 0 (LogA.cells aw).toArray rfl rfl HTF.out (by rw [List.size_toArray]; exact log_info _) (log_one _) ?_
      have HW : Hid ((WA).setCells d0abc.heap.size 0 (LogA.cells aw).toArray.toList = WF) := hWF.out
      rw [HW.out]
      refine hK.out _ _ (HRG.out _ DF) (fun hHeld => ?_)
      clear hK K HW hWF HTF hwF
      simp only [Act.put, zA, zB, zC]
      refine tk 10 (v := .int .i64 RK) rfl (Or.inl ⟨by rfl, fun w' _ => ?_⟩) hHeld ?_
      ·go_simp
      go_simp
      refine wpAnyH_done (by kernel_rfl) ?_ _
      clear hHeld
      go_wp2_with fail
      go_meet
      case rel => exact ⟨d0abc.heap.size, aw, rfl, rfl, hva, bF, oF, DF⟩
     focus
      go_simp
      obtain ⟨WA, hWA, bA0, hbA, _⟩ := boxes1 d0ab [.slice none 0 0, .int .i64 0] 26
      rw [hWA.out]
      have bA : Box WA d0ab.heap.size [.slice none 0 0, .int .i64 0] 26 := bA0
      have zA := hbA.size
      have hltA0 := bA.lt
      have D0abz : Below w19.heap.size w19 WA := D0ab.trans (hbA.mono D0ab.size)
      replace hot := hot.below hbA
      replace hou := hou.below hbA
      refine hK.out _ _ (HRG.out _ D0abz) (fun hHeld => ?_)
      clear hK K hWA bA0
      refine wpAnyH_ready (rs := [4]) (by kernel_rfl) (by simp) ?_
      refine AllReadyH.cons rfl (fun K hK => ?_) AllReadyH.nil
      go_simp
      refine (HIM.out ts uu _ (hgB _ (BW.trans (D0abz.mono BW.size))) hvt.out hvu.out hot (LogA.short_of hvt.out hl) hou (short_wide (short_of hvu.out hlr))).mono ?_
      rintro e WAc ⟨aw, rfl, hva, hoa, hbc⟩
      have hoaN := hoa
      have D0abzc : Below w19.heap.size w19 WAc := D0abz.trans (hbc.mono D0abz.size)
      replace hoa : LogA.own WAc w19.heap.size WAc.heap.size aw := hoa.widen D0abz.size (Nat.le_refl _) (Nat.le_refl _)
      replace bA := bA.below hbc bA.lt
      have z2 := hbc.size
      refine hK.out _ _ (HRG.out _ D0abzc) (fun hHeld => ?_)
      clear hK K
      refine tk 5 (v := .tuple #[.agg (LogA.cells aw).toArray, .int .i64 RK]) rfl (Or.inl ⟨by rfl, fun w' _ => ?_⟩) hHeld ?_
      ·go_simp
      go_simp
      refine tk 6 (v := .agg (LogA.cells aw).toArray) rfl (Or.inl ⟨by rfl, fun w' _ => ?_⟩) hHeld ?_
      ·go_simp
      go_simp
      refine tk 7 (v := .int .i64 RK) rfl (Or.inl ⟨by rfl, fun w' _ => ?_⟩) hHeld ?_
      ·go_simp
      go_simp
      have hlast : WAc.heap.size ≤ WAc.heap.size := Nat.le_refl _
      obtain ⟨WF, hWF, hwF, hsF, HTF, _, bF⟩ := log_out aw _ rfl bA
      have hltA := bA.lt
      have zD := D0abzc.size
      have zp2 := D0.size
      have zp3 := D0a.size
      have zp4 := D0ab.size
      have zp5 := D0abz.size
      have oF : LogA.own WF w19.heap.size WF.heap.size aw := (hoaN.within hwF (by omega)).widen (by omega) (by omega) (Nat.le_refl _)
      have DF : Below w19.heap.size w19 WF := D0abzc.trans (hwF.below (by omega) (by omega))
      refine wpAnyH_ready (rs := [9]) (by kernel_rfl) (by simp) ?_
      refine AllReadyH.cons rfl (fun K hK => ?_) AllReadyH.nil
      rw [if_pos (by rfl)]
      refine wp_store_mid 26 (.tmp 15) (.tmp 100) rfl d0ab.heap.size 0 (LogA.cells aw).toArray rfl rfl HTF.out (by rw [List.size_toArray]; exact log_info _) (log_one _) ?_
      have HW : Hid ((WAc).setCells d0ab.heap.size 0 (LogA.cells aw).toArray.toList = WF) := hWF.out
      rw [HW.out]
      refine hK.out _ _ (HRG.out _ DF) (fun hHeld => ?_)
      clear hK K HW hWF HTF hwF
      simp only [Act.put, zA, zB, zC]
      refine tk 10 (v := .int .i64 RK) rfl (Or.inl ⟨by rfl, fun w' _ => ?_⟩) hHeld ?_
      ·go_simp
      go_simp
      refine wpAnyH_done (by kernel_rfl) ?_ _
      clear hHeld
      go_wp2_with fail
      go_meet
      case rel => exact ⟨d0ab.heap.size, aw, rfl, rfl, hva, bF, oF, DF⟩
    focus
     go_simp
     obtain ⟨WA, hWA, bA0, hbA, _⟩ := boxes1 d0a [.slice none 0 0, .int .i64 0] 26
     rw [hWA.out]
     have bA : Box WA d0a.heap.size [.slice none 0 0, .int .i64 0] 26 := bA0
     have zA := hbA.size
     have hltA0 := bA.lt
     have D0az : Below w19.heap.size w19 WA := D0a.trans (hbA.mono D0a.size)
     replace hot := hot.below hbA
     refine hK.out _ _ (HRG.out _ D0az) (fun hHeld => ?_)
     clear hK K hWA bA0
     refine wpAnyH_ready (rs := [3]) (by kernel_rfl) (by simp) ?_
     refine AllReadyH.cons rfl (fun K hK => ?_) AllReadyH.nil
     go_simp
     refine (toRec_law r _ (hRd _ (BW.trans (D0az.mono BW.size))) hlr).mono ?_
     rintro e WAb ⟨uu, rfl, hvu, hou, hbb⟩
     have D0azb : Below w19.heap.size w19 WAb := D0az.trans (hbb.mono D0az.size)
     replace hot := hot.below hbb
     replace bA := bA.below hbb bA.lt
     have z1 := hbb.size
     refine hK.out _ _ (HRG.out _ D0azb) (fun hHeld => ?_)
     clear hK K
     refine wpAnyH_ready (rs := [4]) (by kernel_rfl) (by simp) ?_
     refine AllReadyH.cons rfl (fun K hK => ?_) AllReadyH.nil
     go_simp
     refine (HIM.out ts uu _ (hgB _ (BW.trans (D0azb.mono BW.size))) hvt.out hvu.out hot (LogA.short_of hvt.out hl) hou (short_wide (short_of hvu.out hlr))).mono ?_
     rintro e WAbc ⟨aw, rfl, hva, hoa, hbc⟩
     have hoaN := hoa
     have D0azbc : Below w19.heap.size w19 WAbc := D0azb.trans (hbc.mono D0azb.size)
     replace hoa : LogA.own WAbc w19.heap.size WAbc.heap.size aw := hoa.widen D0azb.size (Nat.le_refl _) (Nat.le_refl _)
     replace bA := bA.below hbc bA.lt
     have z2 := hbc.size
     refine hK.out _ _ (HRG.out _ D0azbc) (fun hHeld => ?_)
     clear hK K
     refine tk 5 (v := .tuple #[.agg (LogA.cells aw).toArray, .int .i64 RK]) rfl (Or.inl ⟨by rfl, fun w' _ => ?_⟩) hHeld ?_
     ·go_simp
     go_simp
     refine tk 6 (v := .agg (LogA.cells aw).toArray) rfl (Or.inl ⟨by rfl, fun w' _ => ?_⟩) hHeld ?_
     ·go_simp
     go_simp
     refine tk 7 (v := .int .i64 RK) rfl (Or.inl ⟨by rfl, fun w' _ => ?_⟩) hHeld ?_
     ·go_simp
     go_simp
     have hlast : WAbc.heap.size ≤ WAbc.heap.size := Nat.le_refl _
     obtain ⟨WF, hWF, hwF, hsF, HTF, _, bF⟩ := log_out aw _ rfl bA
     have hltA := bA.lt
     have zD := D0azbc.size
     have zp2 := D0.size
     have zp3 := D0a.size
     have zp4 := D0az.size
     have zp5 := D0azb.size
     have oF : LogA.own WF w19.heap.size WF.heap.size aw := (hoaN.within hwF (by omega)).widen (by omega) (by omega) (Nat.le_refl _)
     have DF : Below w19.heap.size w19 WF := D0azbc.trans (hwF.below (by omega) (by omega))
     refine wpAnyH_ready (rs := [9]) (by kernel_rfl) (by simp) ?_
     refine AllReadyH.cons rfl (fun K hK => ?_) AllReadyH.nil
     rw [if_pos (by rfl)]
     refine wp_store_mid 26 (.tmp 15) (.tmp 100) rfl d0a.heap.size 0 (LogA.cells aw).toArray rfl rfl HTF.out (by rw [List.size_toArray]; exact log_info _) (log_one _) ?_
     have HW : Hid ((WAbc).setCells d0a.heap.size 0 (LogA.cells aw).toArray.toList = WF) := hWF.out
     rw [HW.out]
     refine hK.out _ _ (HRG.out _ DF) (fun hHeld => ?_)
     clear hK K HW hWF HTF hwF
     simp only [Act.put, zA, zB, zC]
     refine tk 10 (v := .int .i64 RK) rfl (Or.inl ⟨by rfl, fun w' _ => ?_⟩) hHeld ?_
     ·go_simp
     go_simp
     refine wpAnyH_done (by kernel_rfl) ?_ _
     clear hHeld
     go_wp2_with fail
     go_meet
     case rel => exact ⟨d0a.heap.size, aw, rfl, rfl, hva, bF, oF, DF⟩
   focus
    go_simp
    obtain ⟨WA, hWA, bA0, hbA, _⟩ := boxes1 d0 [.slice none 0 0, .int .i64 0] 26
    rw [hWA.out]
    have bA : Box WA d0.heap.size [.slice none 0 0, .int .i64 0] 26 := bA0
    have zA := hbA.size
    have hltA0 := bA.lt
    have D0z : Below w19.heap.size w19 WA := D0.trans (hbA.mono D0.size)
    refine hK.out _ _ (HRG.out _ D0z) (fun hHeld => ?_)
    clear hK K hWA bA0
    refine wpAnyH_ready (rs := [1]) (by kernel_rfl) (by simp) ?_
    refine AllReadyH.cons rfl (fun K hK => ?_) AllReadyH.nil
    go_simp
    refine (toLog_any p _ (hRp _ (BW.trans (D0z.mono BW.size))) hl).mono ?_
    rintro e WAa ⟨ts, rfl, hvt, hot, hba⟩
    have D0za : Below w19.heap.size w19 WAa := D0z.trans (hba.mono D0z.size)
    replace bA := bA.below hba bA.lt
    have z0 := hba.size
    refine hK.out _ _ (HRG.out _ D0za) (fun hHeld => ?_)
    clear hK K
    refine wpAnyH_ready (rs := [3]) (by kernel_rfl) (by simp) ?_
    refine AllReadyH.cons rfl (fun K hK => ?_) AllReadyH.nil
    go_simp
    refine (toRec_law r _ (hRd _ (BW.trans (D0za.mono BW.size))) hlr).mono ?_
    rintro e WAab ⟨uu, rfl, hvu, hou, hbb⟩
    have D0zab : Below w19.heap.size w19 WAab := D0za.trans (hbb.mono D0za.size)
    replace hot := hot.below hbb
    replace bA := bA.below hbb bA.lt
    have z1 := hbb.size
    refine hK.out _ _ (HRG.out _ D0zab) (fun hHeld => ?_)
    clear hK K
    refine wpAnyH_ready (rs := [4]) (by kernel_rfl) (by simp) ?_
    refine AllReadyH.cons rfl (fun K hK => ?_) AllReadyH.nil
    go_simp
    refine (HIM.out ts uu _ (hgB _ (BW.trans (D0zab.mono BW.size))) hvt.out hvu.out hot (LogA.short_of hvt.out hl) hou (short_wide (short_of hvu.out hlr))).mono ?_
    rintro e WAabc ⟨aw, rfl, hva, hoa, hbc⟩
    have hoaN := hoa
    have D0zabc : Below w19.heap.size w19 WAabc := D0zab.trans (hbc.mono D0zab.size)
    replace hoa : LogA.own WAabc w19.heap.size WAabc.heap.size aw := hoa.widen D0zab.size (Nat.le_refl _) (Nat.le_refl _)
    replace bA := bA.below hbc bA.lt
    have z2 := hbc.size
    refine hK.out _ _ (HRG.out _ D0zabc) (fun hHeld => ?_)
    clear hK K
    refine tk 5 (v := .tuple #[.agg (LogA.cells aw).toArray, .int .i64 RK]) rfl (Or.inl ⟨by rfl, fun w' _ => ?_⟩) hHeld ?_
    ·go_simp
    go_simp
    refine tk 6 (v := .agg (LogA.cells aw).toArray) rfl (Or.inl ⟨by rfl, fun w' _ => ?_⟩) hHeld ?_
    ·go_simp
    go_simp
    refine tk 7 (v := .int .i64 RK) rfl (Or.inl ⟨by rfl, fun w' _ => ?_⟩) hHeld ?_
    ·go_simp
    go_simp
    have hlast : WAabc.heap.size ≤ WAabc.heap.size := Nat.le_refl _
    obtain ⟨WF, hWF, hwF, hsF, HTF, _, bF⟩ := log_out aw _ rfl bA
    have hltA := bA.lt
    have zD := D0zabc.size
    have zp2 := D0.size
    have zp3 := D0z.size
    have zp4 := D0za.size
    have zp5 := D0zab.size
    have oF : LogA.own WF w19.heap.size WF.heap.size aw := (hoaN.within hwF (by omega)).widen (by omega) (by omega) (Nat.le_refl _)
    have DF : Below w19.heap.size w19 WF := D0zabc.trans (hwF.below (by omega) (by omega))
    refine wpAnyH_ready (rs := [9]) (by kernel_rfl) (by simp) ?_
    refine AllReadyH.cons rfl (fun K hK => ?_) AllReadyH.nil
    rw [if_pos (by rfl)]
    refine wp_store_mid 26 (.tmp 15) (.tmp 100) rfl d0.heap.size 0 (LogA.cells aw).toArray rfl rfl HTF.out (by rw [List.size_toArray]; exact log_info _) (log_one _) ?_
    have HW : Hid ((WAabc).setCells d0.heap.size 0 (LogA.cells aw).toArray.toList = WF) := hWF.out
    rw [HW.out]
    refine hK.out _ _ (HRG.out _ DF) (fun hHeld => ?_)
    clear hK K HW hWF HTF hwF
    simp only [Act.put, zA, zB, zC]
    refine tk 10 (v := .int .i64 RK) rfl (Or.inl ⟨by rfl, fun w' _ => ?_⟩) hHeld ?_
    ·go_simp
    go_simp
    refine wpAnyH_done (by kernel_rfl) ?_ _
    clear hHeld
    go_wp2_with fail
    go_meet
    case rel => exact ⟨d0.heap.size, aw, rfl, rfl, hva, bF, oF, DF⟩
  case rest =>
   obtain ⟨B15, th, rfl, rfl, HVH, bx15, oh, hb20⟩ := hcut
   generalize wc = w20 at *
   have hhS := HSM.out hlr hl th HVH.out
   have HHW : Hid (tw.v = th.v) := HVW.out.trans HVH.out.symm
   replace bx2 := bx2.below hb20 bx2.lt
   replace bx3 := bx3.below hb20 bx3.lt
   replace bx6 := bx6.below hb20 bx6.lt
   replace bx8 := bx8.below hb20 bx8.lt
   replace bx9 := bx9.below hb20 bx9.lt
   replace bx10 := bx10.below hb20 bx10.lt
   replace ow := ow.below hb20
   replace og18 := og18.below hb20
   replace BW := BW.trans (hb20.mono BW.size)
   have s20 := hb20.size
   clear HRG
   go_wp2_with (first | (guard_target = wpList _ _ _ (Oper.mk (some 102) _ _ _ _ _ :: _) _ _; refine wpList_load_mid rfl 26 (.tmp 15) rfl B15 0 rfl (LogA.cells th) _ (log_rng _ bx15) Tryz.underlying26 rfl (log_info _) ?_) | (guard_target = wpList _ _ _ (Oper.mk (some 103) _ _ _ _ _ :: _) _ _; refine wpList_load_mid rfl 26 (.tmp 6) rfl B6 0 rfl (LogA.cells tw) _ (log_rng _ bx6) Tryz.underlying26 rfl (log_info _) ?_) | fail)
   refine (eqLog_same th tw HHW.out w20 oh.reads ow.reads (LogA.short_wide hhS)).mono ?_
   rintro e w21 ⟨rfl, hb21⟩
   replace bx2 := bx2.below hb21 bx2.lt
   replace bx3 := bx3.below hb21 bx3.lt
   replace bx6 := bx6.below hb21 bx6.lt
   replace bx8 := bx8.below hb21 bx8.lt
   replace bx9 := bx9.below hb21 bx9.lt
   replace bx10 := bx10.below hb21 bx10.lt
   replace ow := ow.below hb21
   replace og18 := og18.below hb21
   replace BW := BW.trans (hb21.mono BW.size)
   have s21 := hb21.size
   go_wp2_with (first | (guard_target = wpList _ _ _ (Oper.mk (some 111) _ _ _ _ _ :: _) _ _; refine wpList_load_mid rfl 26 (.tmp 10) rfl w8.heap.size 0 rfl (LogA.cells tg) _ (log_rng _ bx10) Tryz.underlying26 rfl (log_info _) ?_) | fail)
   refine (heldLog_any tg w7.heap.size w8.heap.size 1 w21 og18 (by have := hgS.len; omega) (by omega) (count_short hgS)).mono ?_
   rintro e w22 ⟨rfl, hb22⟩
   replace BW := BW.trans (hb22.mono BW.size)
   simp only
   go_wp2
   go_ret
   exact ⟨rfl, hbW.trans (BW.mono hbW.size)⟩
end Go.Proofs.YtoboickdkednkaaGreatDoor
namespace Go.Proofs.YtoboickdkednkaaGreatDoor
open Go.ChangeShapes Go.WideShapes Go.RowKit
theorem Tryz.et : Tryz.prog.globalNamed "errors.errorType" = some 0 := by kernel_rfl
theorem Tryz.rt : (Tryz.prog.cutTypes.find? (·.1 == "internal/reflectlite.rtype")).map (·.2) = some 200 := by kernel_rfl
theorem Tryz.oneRow : ((List.range 242).filter fun t => Tryz.prog.rowNamed t [101, 114, 114, 111, 114]) = [165] := by kernel_rfl
theorem Tryz.typesSize : Tryz.prog.types.size = 242 := by kernel_rfl
theorem errT_of_handles {W : World} {laid : List (String × DataW Unit)} (hm : ("errors.errorType", Rows.laid_errors_errorType) ∈ laid) (h : handlesMet Tryz.prog laid W) : ErrT W := by
 obtain ⟨name, u, ty, e1, e2, e3, e4, e5⟩ := h _ hm
 have en : name = [101, 114, 114, 111, 114] := (Option.some.inj e1).symm
 subst en
 obtain rfl := Option.some.inj (Tryz.rt.symm.trans e2)
 have hm : ty ∈ (List.range 242).filter fun t => Tryz.prog.rowNamed t [101, 114, 114, 111, 114] := List.mem_filter.2 ⟨List.mem_range.2 (by rw [← Tryz.typesSize]; exact e3), e4⟩
 rw [Tryz.oneRow] at hm
 obtain rfl := List.mem_singleton.1 hm
 have hh : typeHandle Tryz.prog 165 = .pointer (some ⟨1, 165, none⟩) := by kernel_rfl
 rw [hh] at e5
 unfold ErrT
 simpa using World.var?_cell Tryz.et e5 0
def laid1 : List (String × DataW Unit) := [("errors.errorType", Rows.laid_errors_errorType)]
theorem errT_of_laid1 {W : World} (h : laidMetH Tryz.prog laid1 W) : ErrT W := by
 have h' : laidMet Tryz.prog [] W ∧ handlesMet Tryz.prog laid1 W := h
 exact errT_of_handles (List.mem_singleton.2 rfl) h'.2
end Go.Proofs.YtoboickdkednkaaGreatDoor