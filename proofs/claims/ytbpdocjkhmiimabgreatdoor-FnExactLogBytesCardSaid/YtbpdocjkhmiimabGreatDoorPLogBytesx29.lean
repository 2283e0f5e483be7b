/- Several texts in one, in their order. -/
import Derived.Test.YtbpdocjkhmiimabGreatDoorPLogBytesx27
import Derived.Test.YtbpdocjkhmiimabGreatDoorPLogBytesx28
import Derived.Test.YtbpdocjkhmiimabGreatDoorPLogBytesx13
import Derived.Test.YtbpdocjkhmiimabGreatDoorPLogBytesx25
import Derived.Test.YtbpdocjkhmiimabGreatDoorPLogBytesx26
import Derived.Test.YtbpdocjkhmiimabGreatDoorPLogBytesx17
import Derived.Test.YtbpdocjkhmiimabGreatDoorPLogBytesx16
import Derived.Deep.CutRange
/- The walks of impl.putSlot and impl.PutPage. -/
namespace Go.Proofs.YtbpdocjkhmiimabGreatDoor
open Go.RowKit

theorem strOf_size (y : List Int) : (strOf y).size = y.length := by simp [strOf, ByteArray.size]
theorem sBytes_strOf (y : List Int) (h : Bytes y) : sBytes (strOf y) = y := by
  unfold sBytes strOf
  simp only [List.map_map]
  conv => rhs; rw [← List.map_id y]
  apply List.map_congr_left
  intro z hz
  have := h z hz
  simp
  omega
theorem putText_put (o : ObjV) : putTextOf (strOf (putObjOf o)) = putOf (putObjOf o).length ++ putObjOf o := by
  unfold putTextOf
  rw [strOf_size, sBytes_strOf _ (putObj_byte o)]
theorem flatS_take (ss : List SlotA) (k : Nat) (h : k < ss.length) : ((ss.take (k + 1)).map (·.v)).flatMap putSlotOf = ((ss.take k).map (·.v)).flatMap putSlotOf ++ putSlotOf (ss.getD k zeroS).v := by
  rw [List.take_add_one, List.map_append, List.flatMap_append]
  simp [List.getD, h]

set_option maxHeartbeats 400000 in
set_option maxRecDepth 100000 in
theorem putSlot_any (a : Option Addr) (c : Nat) (xs : List Int) (s : SlotA) (w : World) (hg : ErrT w) (hx : Reads w a xs) (hc : a = none → c = 0) (hr : s.reads w) (hl : Fit [s]) (hxl : xs.length ≤ 1000000) :
    Calls Tryz.prog 59 #[.slice a xs.length c, .agg s.cells.toArray] w fun e w' => ∃ a' c' ys, e = .returned (.slice a' ys.length c') ∧ Hid (ys = xs ++ (putOf (putObjOf s.v.o).length ++ putObjOf s.v.o)) ∧ OwnB w' w.heap.size a' c' ys ∧ Below w.heap.size w w' := by
  obtain ⟨h1, h2⟩ := hl s (List.mem_singleton.2 rfl)
  obtain ⟨W, hW, b0, hbW, hsW⟩ := boxes1 w s.cells 56
  have C1 := implPutObj_any s.v.o s.aI s.cI s.aR s.cR W (hg.keep hbW) (ReadsO.below hr hbW) (by omega) (by omega)
  have HT : Hid (_ = _) := putText_put s.v.o
  have hpl := putObj_len s.v.o
  have HC : Hid (a = none → c = 0) := hc
  simp only [SlotA.cells] at *
  clear hc
  go_enter Tryz.func59, Tryz.ntmps59
  go_wp2_with fail
  rw [hW.out]
  refine C1.mono ?_
  rintro e w1 ⟨a1, c1, y1, rfl, HY1, ho1, hb1⟩
  have hcv := run_text_own ho1
  have B1 : Below w.heap.size w w1 := hbW.trans (hb1.mono hbW.size)
  have hyl : (strOf y1).size ≤ 1000 := by rw [strOf_size, HY1.out]; exact hpl
  have HS : Hid (putTextOf (strOf y1) = putOf (putObjOf s.v.o).length ++ putObjOf s.v.o) := by rw [Hid, HY1.out]; exact HT.out
  generalize strOf y1 = t1 at *
  clear C1 HT
  go_wp2_with fail
  refine (implPutText_any a c xs t1 w1 (hx.below B1) HC.out (by omega)).mono ?_
  rintro e w2 ⟨a2, c2, y2, rfl, hy2, ho2, hb2⟩
  have HY2 : Hid (y2 = xs ++ (putOf (putObjOf s.v.o).length ++ putObjOf s.v.o)) := by rw [Hid, hy2, HS.out]
  clear hy2
  go_wp2
  go_ret
  exact ⟨a2, c2, y2, rfl, HY2, ho2.base B1.size, B1.trans (hb2.mono B1.size)⟩

end Go.Proofs.YtbpdocjkhmiimabGreatDoor

/- The walk of impl.PutRec. -/
namespace Go.Proofs.YtbpdocjkhmiimabGreatDoor
open Go.RowKit

theorem flagInt_any (b : Bool) (w : World) : Calls Tryz.prog 60 #[.bool b] w fun e w' => e = .returned (.int .i64 (if b then 1 else 0)) ∧ w' = w := by
  cases b
  · go_enter Tryz.func60, Tryz.ntmps60
    go_wp2
    go_ret
    exact ⟨rfl, rfl⟩
  · go_enter Tryz.func60, Tryz.ntmps60
    go_wp2
    go_ret
    exact ⟨rfl, rfl⟩
theorem bodyR_parts {r : RecV} (h : okR r = true) : bodyR r = ((((headR r).flatMap putOf ++ (putOf (putObjOf r.bf.o).length ++ putObjOf r.bf.o)) ++ (putOf (putObjOf r.af.o).length ++ putObjOf r.af.o)) ++ putOf r.txs.length) ++ r.txs.flatMap putLive := by
  have d := okR_bd h
  unfold bodyR
  rw [putSlot_one d.bf, putSlot_one d.af]

set_option maxHeartbeats 4000000 in
set_option maxRecDepth 100000 in
theorem implPutRec_any (r : RecA) (w : World) (hg : ErrT w) (hr : r.reads w) (hl : r.short 1099511627776) :
    Calls Tryz.prog 35 #[.agg r.cells.toArray] w fun e w' => ∃ a' c' ys, e = .returned (.slice a' ys.length c') ∧ Hid (ys = putRecOf r.v) ∧ OwnB w' w.heap.size a' c' ys ∧ Below w.heap.size w w' := by
  obtain ⟨W, hW, b0, hbW, hsW⟩ := boxes1 w r.cells 59
  have C1 := implRecOk_any r W (hg.keep hbW) (hr.below hbW) hl
  have HPT : Hid (okR r.v = true → putRecOf r.v = _) := fun h => (putRec_ok h).trans (bodyR_parts h)
  have HPF : Hid (okR r.v = false → putRecOf r.v = []) := fun h => putRec_no h
  have HT20 : Hid (okR r.v = true → r.txs.length ≤ 20) := fun h => okR_txs h
  have HX : Hid (∀ u, Below W.heap.size W u → Box u w.heap.size r.cells 59) := fun u hu => b0.below hu b0.lt
  generalize putRecOf r.v = R at *
  simp only [RecA.cells] at *
  have HC : Hid (∀ w', Box w' w.heap.size [.int .i64 r.lsn, .int .i64 r.tx, .int .i64 r.prev, .int .i64 r.kind, .int .i64 r.oid, .bool r.bf.v.has, .int .i64 r.bf.v.o.kind, .slice r.bf.aI r.bf.v.o.ints.length r.bf.cI, .slice r.bf.aR r.bf.v.o.refs.length r.bf.cR, .bool r.af.v.has, .int .i64 r.af.v.o.kind, .slice r.af.aI r.af.v.o.ints.length r.af.cI, .slice r.af.aR r.af.v.o.refs.length r.af.cR, .int .i64 r.next, .slice r.aL r.txs.length r.cL] 59 → w'.cell? ⟨w.heap.size, 5, none⟩ = some (.bool r.bf.v.has) ∧ w'.cell? ⟨w.heap.size, 6, none⟩ = some (.int .i64 r.bf.v.o.kind) ∧ w'.cell? ⟨w.heap.size, 7, none⟩ = some (.slice r.bf.aI r.bf.v.o.ints.length r.bf.cI) ∧ w'.cell? ⟨w.heap.size, 8, none⟩ = some (.slice r.bf.aR r.bf.v.o.refs.length r.bf.cR) ∧ w'.cell? ⟨w.heap.size, 9, none⟩ = some (.bool r.af.v.has) ∧ w'.cell? ⟨w.heap.size, 10, none⟩ = some (.int .i64 r.af.v.o.kind) ∧ w'.cell? ⟨w.heap.size, 11, none⟩ = some (.slice r.af.aI r.af.v.o.ints.length r.af.cI) ∧ w'.cell? ⟨w.heap.size, 12, none⟩ = some (.slice r.af.aR r.af.v.o.refs.length r.af.cR)) := fun w' b => ⟨b.cell 5 _ rfl, b.cell 6 _ rfl, b.cell 7 _ rfl, b.cell 8 _ rfl, b.cell 9 _ rfl, b.cell 10 _ rfl, b.cell 11 _ rfl, b.cell 12 _ rfl⟩
  clear hsW
  go_enter Tryz.func35, Tryz.ntmps35
  go_wp2_with fail
  rw [hW.out]
  clear hW
  refine C1.mono ?_
  clear C1 b0
  rintro e w1 ⟨rfl, hb1⟩
  have B1 : Below w.heap.size w w1 := hbW.trans (hb1.mono hbW.size)
  cases hok : okR r.v with
  | false =>
    have HR : Hid (R = []) := HPF.out hok
    clear hok HPT HPF HT20
    go_wp2
    go_ret
    exact ⟨_, 0, [], rfl, HR.out.symm, (own_lit0 w1).base B1.size, B1.alloc B1.size _⟩
  | true =>
    have HR : Hid (R = _) := HPT.out hok
    have h20 := HT20.out hok
    clear hok HPT HPF HT20
    obtain ⟨x0, x1, x2, x3, x4, _, _, _, _, _, _, _, _, x13, _⟩ := fifteen (HX.out w1 hb1)
    go_wp2_with fail
    refine (putInts_any none 0 [] _ _ [r.lsn, r.tx, r.prev, r.kind, r.oid, r.next] _ ⟨by simp, by simp⟩ (fun _ => rfl) (readsI_lit w1 [r.lsn, r.tx, r.prev, r.kind, r.oid, r.next] _) (by simp)).mono ?_
    clear x0 x1 x2 x3 x4 x13
    rintro e w2 ⟨a2, c2, y2, rfl, hy2, ho2, hb2⟩
    have HY2 : Hid (y2 = (headR r.v).flatMap putOf) := by rw [Hid, hy2]; rfl
    have hyl2 : y2.length ≤ 390 := by rw [HY2.out]; exact flatN_len _
    have hbA : Below w1.heap.size w1 (w1.alloc (.cells #[.int .i64 r.lsn, .int .i64 r.tx, .int .i64 r.prev, .int .i64 r.kind, .int .i64 r.oid, .int .i64 r.next] 3)) := (Below.refl _ _).alloc (Nat.le_refl _) _
    have N2 : Below w1.heap.size w1 w2 := hbA.trans (hb2.mono hbA.size)
    have M2 : Below W.heap.size W w2 := hb1.trans (N2.mono hb1.size)
    have B2 : Below w.heap.size w w2 := B1.trans (N2.mono B1.size)
    have ho2' : OwnB w2 w.heap.size a2 c2 y2 := ho2.base (Nat.le_trans B1.size hbA.size)
    clear hy2 hbA hb2 ho2 N2
    go_wp2_with fail
    refine wp_region_held_drew (S := fun w' => w'.cell? ⟨w.heap.size, 5, none⟩ = some (.bool r.bf.v.has) ∧ w'.cell? ⟨w.heap.size, 6, none⟩ = some (.int .i64 r.bf.v.o.kind) ∧ w'.cell? ⟨w.heap.size, 7, none⟩ = some (.slice r.bf.aI r.bf.v.o.ints.length r.bf.cI) ∧ w'.cell? ⟨w.heap.size, 8, none⟩ = some (.slice r.bf.aR r.bf.v.o.refs.length r.bf.cR) ∧ w'.cell? ⟨w.heap.size, 9, none⟩ = some (.bool r.af.v.has) ∧ w'.cell? ⟨w.heap.size, 10, none⟩ = some (.int .i64 r.af.v.o.kind) ∧ w'.cell? ⟨w.heap.size, 11, none⟩ = some (.slice r.af.aI r.af.v.o.ints.length r.af.cI) ∧ w'.cell? ⟨w.heap.size, 12, none⟩ = some (.slice r.af.aR r.af.v.o.refs.length r.af.cR)) (by kernel_rfl) (HC.out _ (HX.out _ M2.drew)) (fun hHeld => ?_)
    refine wpAnyH_take (i := 0) (v := .slice a2 y2.length c2) rfl (by kernel_rfl) (by kernel_rfl) (by kernel_rfl) (fun _ _ _ h => h) (Or.inl ⟨by rfl, ?_⟩) hHeld ?_
    · intro w' hSw
      go_simp <;> rfl
    try simp only [Act.put, List.getElem_toArray, List.getElem_cons_zero, List.setIfInBounds_toArray, List.set_cons_zero, List.set_cons_succ]
    refine wpAnyH_take (i := 1) (v := .pointer (some ⟨w.heap.size, 5, none⟩)) rfl (by kernel_rfl) (by kernel_rfl) (by kernel_rfl) (fun _ _ _ h => h) (Or.inl ⟨by rfl, ?_⟩) hHeld ?_
    · intro w' hSw
      go_simp <;> rfl
    try simp only [Act.put, List.getElem_toArray, List.getElem_cons_zero, List.getElem_cons_succ, List.setIfInBounds_toArray, List.set_cons_zero, List.set_cons_succ]
    refine wpAnyH_take (i := 2) (v := .agg #[.bool r.bf.v.has, .int .i64 r.bf.v.o.kind, .slice r.bf.aI r.bf.v.o.ints.length r.bf.cI, .slice r.bf.aR r.bf.v.o.refs.length r.bf.cR]) rfl (by kernel_rfl) (by kernel_rfl) (by kernel_rfl) (fun _ _ _ h => h) (Or.inl ⟨by rfl, ?_⟩) hHeld ?_
    · intro w' hSw
      go_simp <;> rfl
    try simp only [Act.put, List.getElem_toArray, List.getElem_cons_zero, List.getElem_cons_succ, List.setIfInBounds_toArray, List.set_cons_zero, List.set_cons_succ]
    refine wpAnyH_take (i := 4) (v := .pointer (some ⟨w.heap.size, 9, none⟩)) rfl (by kernel_rfl) (by kernel_rfl) (by kernel_rfl) (fun _ _ _ h => h) (Or.inl ⟨by rfl, ?_⟩) hHeld ?_
    · intro w' hSw
      go_simp <;> rfl
    try simp only [Act.put, List.getElem_toArray, List.getElem_cons_zero, List.getElem_cons_succ, List.setIfInBounds_toArray, List.set_cons_zero, List.set_cons_succ]
    refine wpAnyH_take (i := 5) (v := .agg #[.bool r.af.v.has, .int .i64 r.af.v.o.kind, .slice r.af.aI r.af.v.o.ints.length r.af.cI, .slice r.af.aR r.af.v.o.refs.length r.af.cR]) rfl (by kernel_rfl) (by kernel_rfl) (by kernel_rfl) (fun _ _ _ h => h) (Or.inl ⟨by rfl, ?_⟩) hHeld ?_
    · intro w' hSw
      go_simp <;> rfl
    try simp only [Act.put, List.getElem_toArray, List.getElem_cons_zero, List.getElem_cons_succ, List.setIfInBounds_toArray, List.set_cons_zero, List.set_cons_succ]
    refine wpAnyH_ready (rs := [3]) (by kernel_rfl) (by simp) ?_
    refine AllReadyH.cons rfl (fun K hK => ?_) AllReadyH.nil
    go_simp
    refine (putSlot_any a2 c2 y2 r.bf _ (hg.keep B2.drew) (ho2'.reads.below (Below.refl _ _).drew) ho2'.nocap (ReadsO.below hr.bf B2.drew) (one_fit hl.bf) (by omega)).mono ?_
    rintro e w3 ⟨a3, c3, y3, rfl, HY3, ho3, hb3⟩
    have hpb := putObj_len r.bf.v.o
    have hpo := (putOf_len ((putObjOf r.bf.v.o).length : Int)).2
    have hyl3 : y3.length ≤ 1500 := by rw [HY3.out]; simp only [List.length_append]; omega
    have M3 : Below W.heap.size W w3 := M2.drew.trans (hb3.mono M2.drew.size)
    have B3 : Below w.heap.size w w3 := B2.drew.trans (hb3.mono B2.drew.size)
    have ho3' : OwnB w3 w.heap.size a3 c3 y3 := ho3.base B2.size
    refine hK.out _ _ (HC.out _ (HX.out _ M3)) (fun hHeld => ?_)
    clear hK K
    try simp only [Act.put, List.getElem_toArray, List.getElem_cons_zero, List.getElem_cons_succ, List.setIfInBounds_toArray, List.set_cons_zero, List.set_cons_succ]
    refine wpAnyH_ready (rs := [6]) (by kernel_rfl) (by simp) ?_
    refine AllReadyH.cons rfl (fun K hK => ?_) AllReadyH.nil
    go_simp
    refine (putSlot_any a3 c3 y3 r.af _ (hg.keep B3) ho3'.reads ho3'.nocap (ReadsO.below hr.af B3) (one_fit hl.af) (by omega)).mono ?_
    rintro e w4 ⟨a4, c4, y4, rfl, HY4, ho4, hb4⟩
    have hpb' := putObj_len r.af.v.o
    have hpo' := (putOf_len ((putObjOf r.af.v.o).length : Int)).2
    have hyl4 : y4.length ≤ 3000 := by rw [HY4.out]; simp only [List.length_append]; omega
    have M4 : Below W.heap.size W w4 := M3.trans (hb4.mono M3.size)
    have B4 : Below w.heap.size w w4 := B3.trans (hb4.mono B3.size)
    have ho4' : OwnB w4 w.heap.size a4 c4 y4 := ho4.base B3.size
    refine hK.out _ _ (HC.out _ (HX.out _ M4)) (fun hHeld => ?_)
    clear hK K
    try simp only [Act.put, List.getElem_toArray, List.getElem_cons_zero, List.getElem_cons_succ, List.setIfInBounds_toArray, List.set_cons_zero, List.set_cons_succ]
    refine wpAnyH_take (i := 7) (v := .slice a4 y4.length c4) rfl (by kernel_rfl) (by kernel_rfl) (by kernel_rfl) (fun _ _ _ h => h) (Or.inl ⟨by rfl, ?_⟩) hHeld ?_
    · intro w' hSw
      go_simp <;> rfl
    try simp only [Act.put, List.getElem_toArray, List.getElem_cons_zero, List.getElem_cons_succ, List.setIfInBounds_toArray, List.set_cons_zero, List.set_cons_succ]
    refine wpAnyH_done (by kernel_rfl) ?_ _
    have HP4 : Hid (y4 = (((headR r.v).flatMap putOf ++ (putOf (putObjOf r.bf.v.o).length ++ putObjOf r.bf.v.o)) ++ (putOf (putObjOf r.af.v.o).length ++ putObjOf r.af.v.o))) := by rw [Hid, HY4.out, HY3.out, HY2.out]
    have x14 := (HX.out w4 M4).cell 14 _ rfl
    clear hHeld HY4 HY3 HY2 ho4 ho3 ho3' ho2' hb3 hb4 hyl2 hyl3 hpb hpo hpb' hpo' M2 M3 B2 B3 HC
    go_wp2_with fail
    refine (putInts_any a4 c4 y4 _ _ [(r.txs.length : Int)] _ (ho4'.reads.below ((Below.refl _ _).alloc (Nat.le_refl _) _)) ho4'.nocap (readsI_one w4 _ _) (by simp only [List.length_cons, List.length_nil]; omega)).mono ?_
    clear x14
    rintro e w5 ⟨a5, c5, y5, rfl, hy5, ho5, hb5⟩
    have hbA : Below w4.heap.size w4 (w4.alloc (.cells #[.int .i64 (r.txs.length : Int)] 3)) := (Below.refl _ _).alloc (Nat.le_refl _) _
    have N5 : Below w4.heap.size w4 w5 := hbA.trans (hb5.mono hbA.size)
    have M5 : Below W.heap.size W w5 := M4.trans (N5.mono M4.size)
    have B5 : Below w.heap.size w w5 := B4.trans (N5.mono B4.size)
    have HY5 : Hid (y5 = y4 ++ putOf (r.txs.length : Int)) := by rw [Hid, hy5]; simp
    have ho5' : OwnB w5 w.heap.size a5 c5 y5 := ho5.base (Nat.le_trans B4.size hbA.size)
    have hyl5 : y5.length ≤ 4000 := by have := (putOf_len (r.txs.length : Int)).2; rw [HY5.out]; simp only [List.length_append]; omega
    have HRR : Hid (R = y5 ++ r.txs.flatMap putLive) := by rw [Hid, HR.out, HY5.out, HP4.out]; rfl
    have x14 := (HX.out w5 M5).cell 14 _ rfl
    have hrt := hr.txs.below B5
    clear hy5 hb5 ho5 hbA N5 HY5 HP4 HR ho4' M4 B4 hyl4
    generalize r.txs = ls at *
    generalize r.aL = aL at *
    generalize r.cL = cL at *
    go_wp2_with fail
    clear x14
    go_loopw [3, 40] (fun b i wr => ∃ (a' : Option Addr) (c' : Nat) (ys : List Int) (k : Nat), b = .slice a' ys.length c' ∧ i = .int .i64 k ∧ k ≤ ls.length ∧ Hid (ys = y5 ++ (ls.take k).flatMap putLive) ∧ OwnB wr w.heap.size a' c' ys ∧ Below w5.heap.size w5 wr)
      (fun _ i _ => ls.length - (intOf i).toNat)
    case atStart => exact ⟨a5, c5, y5, 0, rfl, rfl, Nat.zero_le _, by simp [Hid], ho5', Below.refl _ _⟩
    case round =>
      obtain ⟨a', c', ys, k, rfl, rfl, hk, hy, ho, hbl⟩ := hrel
      clear ho5'
      have Bl : Below w.heap.size w wr := B5.trans (hbl.mono B5.size)
      have hyl : ys.length ≤ 10000 := by
        have h1 := flatL_len (ls.take k)
        rw [hy.out, List.length_append]
        rw [List.length_take] at h1
        omega
      by_cases hlt : k < ls.length
      · obtain ⟨b, off, rfl, hcell⟩ := (hrt.below hbl) (by intro e; rw [e] at hlt; simp at hlt)
        obtain ⟨c0, c1, c2'⟩ := hcell k hlt
        have HF : Hid (_ = _) := flatL_step ls k hlt
        have HPL : Hid (∀ z : LiveV, putLive z = (putOf z.tx ++ putOf z.last) ++ putOf (if z.aborts then 1 else 0)) := fun _ => rfl
        clear hcell hrt
        generalize ls.getD k zeroL = z at *
        obtain ⟨W6, hW6, b6, hb6, hs6⟩ := boxes1 wr [.int .i64 z.tx, .int .i64 z.last, .bool z.aborts] 87
        have HC6 : Hid (∀ w', Box w' wr.heap.size [.int .i64 z.tx, .int .i64 z.last, .bool z.aborts] 87 → w'.cell? ⟨wr.heap.size, 0, none⟩ = some (.int .i64 z.tx) ∧ w'.cell? ⟨wr.heap.size, 1, none⟩ = some (.int .i64 z.last) ∧ w'.cell? ⟨wr.heap.size, 2, none⟩ = some (.bool z.aborts)) := fun w' b => ⟨b.cell 0 _ rfl, b.cell 1 _ rfl, b.cell 2 _ rfl⟩
        have l6 := b6.lt
        have L6 : Below wr.heap.size wr W6 := hb6
        clear hs6 hb6
        go_wp2_with fail
        rw [hW6.out]
        clear hW6 c0 c1 c2'
        refine wp_region_held_drew (S := fun w' => w'.cell? ⟨wr.heap.size, 0, none⟩ = some (.int .i64 z.tx) ∧ w'.cell? ⟨wr.heap.size, 1, none⟩ = some (.int .i64 z.last) ∧ w'.cell? ⟨wr.heap.size, 2, none⟩ = some (.bool z.aborts)) (by kernel_rfl) (HC6.out _ (b6.below (Below.refl _ _).drew b6.lt)) (fun hHeld => ?_)
        refine wpAnyH_take (i := 0) (v := (.slice a' ys.length c')) rfl (by kernel_rfl) (by kernel_rfl) (by kernel_rfl) (fun _ _ _ h => h) (Or.inl ⟨by rfl, ?_⟩) hHeld ?_
        · intro w' hSw
          go_simp <;> rfl
        try simp only [Act.put, List.getElem_toArray, List.getElem_cons_zero, List.setIfInBounds_toArray, List.set_cons_zero, List.set_cons_succ]
        refine wpAnyH_take (i := 1) (v := .pointer (some ⟨wr.heap.size, 0, none⟩)) rfl (by kernel_rfl) (by kernel_rfl) (by kernel_rfl) (fun _ _ _ h => h) (Or.inl ⟨by rfl, ?_⟩) hHeld ?_
        · intro w' hSw
          go_simp <;> rfl
        try simp only [Act.put, List.getElem_toArray, List.getElem_cons_zero, List.getElem_cons_succ, List.setIfInBounds_toArray, List.set_cons_zero, List.set_cons_succ]
        refine wpAnyH_take (i := 2) (v := .int .i64 z.tx) rfl (by kernel_rfl) (by kernel_rfl) (by kernel_rfl) (fun _ _ _ h => h) (Or.inl ⟨by rfl, ?_⟩) hHeld ?_
        · intro w' hSw
          go_simp <;> rfl
        try simp only [Act.put, List.getElem_toArray, List.getElem_cons_zero, List.getElem_cons_succ, List.setIfInBounds_toArray, List.set_cons_zero, List.set_cons_succ]
        refine wpAnyH_take (i := 3) (v := .pointer (some ⟨wr.heap.size, 1, none⟩)) rfl (by kernel_rfl) (by kernel_rfl) (by kernel_rfl) (fun _ _ _ h => h) (Or.inl ⟨by rfl, ?_⟩) hHeld ?_
        · intro w' hSw
          go_simp <;> rfl
        try simp only [Act.put, List.getElem_toArray, List.getElem_cons_zero, List.getElem_cons_succ, List.setIfInBounds_toArray, List.set_cons_zero, List.set_cons_succ]
        refine wpAnyH_take (i := 4) (v := .int .i64 z.last) rfl (by kernel_rfl) (by kernel_rfl) (by kernel_rfl) (fun _ _ _ h => h) (Or.inl ⟨by rfl, ?_⟩) hHeld ?_
        · intro w' hSw
          go_simp <;> rfl
        try simp only [Act.put, List.getElem_toArray, List.getElem_cons_zero, List.getElem_cons_succ, List.setIfInBounds_toArray, List.set_cons_zero, List.set_cons_succ]
        refine wpAnyH_take (i := 5) (v := .pointer (some ⟨wr.heap.size, 2, none⟩)) rfl (by kernel_rfl) (by kernel_rfl) (by kernel_rfl) (fun _ _ _ h => h) (Or.inl ⟨by rfl, ?_⟩) hHeld ?_
        · intro w' hSw
          go_simp <;> rfl
        try simp only [Act.put, List.getElem_toArray, List.getElem_cons_zero, List.getElem_cons_succ, List.setIfInBounds_toArray, List.set_cons_zero, List.set_cons_succ]
        refine wpAnyH_take (i := 6) (v := .bool z.aborts) rfl (by kernel_rfl) (by kernel_rfl) (by kernel_rfl) (fun _ _ _ h => h) (Or.inl ⟨by rfl, ?_⟩) hHeld ?_
        · intro w' hSw
          go_simp <;> rfl
        try simp only [Act.put, List.getElem_toArray, List.getElem_cons_zero, List.getElem_cons_succ, List.setIfInBounds_toArray, List.set_cons_zero, List.set_cons_succ]
        refine wpAnyH_ready (rs := [7]) (by kernel_rfl) (by simp) ?_
        refine AllReadyH.cons rfl (fun K hK => ?_) AllReadyH.nil
        go_simp
        refine (flagInt_any z.aborts _).mono ?_
        rintro e u ⟨rfl, hu⟩
        rw [hu]
        clear hu u
        generalize hfl : (if z.aborts then (1 : Int) else 0) = fl at *
        refine hK.out _ _ (HC6.out _ (b6.below (Below.refl _ _).drew b6.lt)) (fun hHeld => ?_)
        clear hK K
        try simp only [Act.put, List.getElem_toArray, List.getElem_cons_zero, List.getElem_cons_succ, List.setIfInBounds_toArray, List.set_cons_zero, List.set_cons_succ]
        refine wpAnyH_ready (rs := [8]) (by kernel_rfl) (by simp) ?_
        refine AllReadyH.cons rfl (fun K hK => ?_) AllReadyH.nil
        go_simp
        refine hK.out _ _ (HC6.out _ (b6.below ((Below.refl _ _).drew.alloc (Nat.le_refl _) _) b6.lt)) (fun hHeld => ?_)
        clear hK K
        try simp only [Act.put, List.getElem_toArray, List.getElem_cons_zero, List.getElem_cons_succ, List.setIfInBounds_toArray, List.set_cons_zero, List.set_cons_succ]
        refine wpAnyH_ready (rs := [9]) (by kernel_rfl) (by simp) ?_
        refine AllReadyH.cons rfl (fun K hK => ?_) AllReadyH.nil
        go_simp
        have L7 : Below W6.heap.size W6 ((W6.drew).alloc (.cells #[.int .i64 z.tx, .int .i64 z.last, .int .i64 fl] 3)) := (Below.refl _ _).drew.alloc (Nat.le_refl _) _
        have L7' : Below wr.heap.size wr ((W6.drew).alloc (.cells #[.int .i64 z.tx, .int .i64 z.last, .int .i64 fl] 3)) := L6.trans (L7.mono L6.size)
        refine (putInts_any a' c' ys _ _ [z.tx, z.last, fl] _ (ho.reads.below L7') ho.nocap (readsI_lit W6.drew [z.tx, z.last, fl] _) (by simp only [List.length_cons, List.length_nil]; omega)).mono ?_
        rintro e w8 ⟨a8, c8, y8, rfl, hy8, ho8, hb8⟩
        have L8 : Below wr.heap.size wr w8 := L7'.trans (hb8.mono L7'.size)
        have M8 : Below W6.heap.size W6 w8 := L7.trans (hb8.mono L7.size)
        have HY : Hid (y8 = y5 ++ (ls.take (k + 1)).flatMap putLive) := by rw [Hid, hy8, hy.out, HF.out, HPL.out, hfl]; simp
        have ho8' : OwnB w8 w.heap.size a8 c8 y8 := ho8.base (Nat.le_trans Bl.size L7'.size)
        refine hK.out _ _ (HC6.out _ (b6.below M8 b6.lt)) (fun hHeld => ?_)
        clear hK K
        try simp only [Act.put, List.getElem_toArray, List.getElem_cons_zero, List.getElem_cons_succ, List.setIfInBounds_toArray, List.set_cons_zero, List.set_cons_succ]
        refine wpAnyH_take (i := 10) (v := .slice a8 y8.length c8) rfl (by kernel_rfl) (by kernel_rfl) (by kernel_rfl) (fun _ _ _ h => h) (Or.inl ⟨by rfl, ?_⟩) hHeld ?_
        · intro w' hSw
          go_simp <;> rfl
        try simp only [Act.put, List.getElem_toArray, List.getElem_cons_zero, List.getElem_cons_succ, List.setIfInBounds_toArray, List.set_cons_zero, List.set_cons_succ]
        refine wpAnyH_done (by kernel_rfl) ?_ _
        clear hHeld hy8 hb8 ho8 b6 HC6 hfl HF HPL
        go_wp2_with fail
        go_roundw
        case rel => exact ⟨a8, c8, y8, k + 1, rfl, by go_num, by omega, HY, ho8', hbl.trans (L8.mono hbl.size)⟩
        case measure => simp [intOf]; omega
      · have HE : Hid (ys = R) := by rw [Hid, hy.out, HRR.out, List.take_of_length_le (by omega)]
        go_wp2
        go_ret
        exact ⟨a', c', ys, rfl, HE, ho, Bl⟩
end Go.Proofs.YtbpdocjkhmiimabGreatDoor

/- The walks of spec.LogBytes and impl.LogBytes. -/
namespace Go.Proofs.YtbpdocjkhmiimabGreatDoor
open Go.RowKit

def framesB (rs : List RecA) : List Int := (rs.map RecA.v).flatMap (fun r => frameOf (putRecOf r))
theorem framesB_next (rs : List RecA) (k : Nat) (h : k < rs.length) : framesB (rs.take (k + 1)) = framesB (rs.take k) ++ frameOf (putRecOf (rs.getD k zeroR).v) := by
  have e : rs.getD k zeroR = rs[k] := by simp [List.getD, h]
  unfold framesB
  rw [List.take_succ_eq_append_getElem h, List.map_append, List.flatMap_append, e]
  simp
theorem frame_len (r : RecV) : (frameOf (putRecOf r)).length ≤ 100100 := by
  have h1 := putRec_len r
  have h2 := (putOf_len ((putRecOf r).length : Int)).2
  have h3 : (four (crcOf (putRecOf r))).length = 4 := rfl
  simp only [frameOf, List.length_append]
  omega
theorem framesB_len (rs : List RecA) (k : Nat) : (framesB (rs.take k)).length ≤ k * 100100 := by
  induction k with
  | zero => simp [framesB]
  | succ k ih =>
    by_cases h : k < rs.length
    · rw [framesB_next rs k h, List.length_append]
      have := frame_len (rs.getD k zeroR).v
      omega
    · have e : rs.take (k + 1) = rs.take k := by rw [List.take_of_length_le (by omega), List.take_of_length_le (by omega)]
      rw [e, Nat.add_mul]
      exact Nat.le_trans ih (Nat.le_add_right _ _)
theorem logBytes_no {l : LogA} (h : okLog l.v = false) : logBytesOf l.v = [] := by unfold logBytesOf; rw [if_neg (by rw [h]; decide)]
theorem logBytes_yes {l : LogA} (h : okLog l.v = true) : logBytesOf l.v = framesB l.recs := by unfold logBytesOf; rw [if_pos h]; rfl
theorem logBytes_len (l : LogA) : (logBytesOf l.v).length ≤ 400400000 := by
  cases h : okLog l.v with
  | false => rw [logBytes_no h]; exact Nat.zero_le _
  | true =>
    rw [logBytes_yes h]
    have h1 := framesB_len l.recs l.recs.length
    have h2 := (okLog_yes h).1
    rw [l.v_len] at h2
    rw [List.take_length] at h1
    have h3 := Nat.mul_le_mul_right 100100 h2
    omega
theorem ownB_lit {w W : World} (h : w.alloc (.cells #[] 5) = W) : OwnB W w.heap.size (some ⟨w.heap.size, 0, none⟩) 0 [] := by
  subst h
  exact ⟨by simp, World.ownsRow_lit (size := 1) w #[] 0 (Nat.le_refl _) (by simp [maxLen]) rfl⟩

set_option maxHeartbeats 4000000 in
set_option maxRecDepth 100000 in
theorem specLogBytes_any (l : LogA) (w : World) (hr : l.reads w) (hl : l.short 1099511627776) :
    Calls Tryz.prog 13 #[.agg l.cells.toArray] w fun e w' => ∃ a' c' ys, e = .returned (.slice a' ys.length c') ∧ Hid (ys = logBytesOf l.v) ∧ OwnB w' w.heap.size a' c' ys ∧ Below w.heap.size w w' := by
  have HNO : Hid (okLog l.v = false → logBytesOf l.v = []) := fun h => logBytes_no h
  have HYES : Hid (okLog l.v = true → logBytesOf l.v = framesB l.recs ∧ l.recs.length ≤ 4000) := fun h => ⟨logBytes_yes h, by have := (okLog_yes h).1; rw [l.v_len] at this; exact this⟩
  have HS : Hid (∀ k, k < l.recs.length → (l.recs.getD k zeroR).short 1099511627776) := fun k hk => hl.at k hk
  obtain ⟨W, hW, b0, bE, hbW, hsW⟩ := boxes2 w l.cells [] 28 5
  have oE : OwnB W w.heap.size (some ⟨w.heap.size + 1, 0, none⟩) 0 [] := by
    have h1 : (w.alloc (.cells l.cells.toArray 28)).alloc (.cells #[] 5) = W := hW.out
    have h2 := ownB_lit h1
    rw [World.size_alloc] at h2
    exact ⟨h2.1, ownsRow_base h2.2 (fun k hk => by have := (h2.2.lt k hk).1; omega)⟩
  have C1 := specLogOk_any l W (hr.below hbW) hl
  have HX : Hid (∀ u, Below W.heap.size W u → Box u w.heap.size l.cells 28) := fun u hu => b0.below hu b0.lt
  have HC : Hid (∀ k, k < l.recs.length → ∃ b off, l.a = some ⟨b, off, none⟩ ∧ w.rangeAt b (off + k * 15) (l.recs.getD k zeroR).cells ∧ (l.recs.getD k zeroR).reads w) := fun k hk => by
    obtain ⟨b, off, ha, hc⟩ := hr (by intro e; rw [e] at hk; simp at hk)
    exact ⟨b, off, ha, hc k hk⟩
  have HI : Hid ((Tryz.prog.info? 59).map (·.size) = some 15) := by rw [Hid]; kernel_rfl
  have hs0 : w.heap.size + 1 < W.heap.size := by omega
  clear hsW bE
  obtain ⟨rs, s, a, c⟩ := l
  simp only [LogA.cells] at *
  have x0 := b0.cell 0 _ rfl
  have x1 := b0.cell 1 _ rfl
  clear b0 hr hl
  go_enter Tryz.func13, Tryz.ntmps13
  go_upto_region 2 with fail
  rw [hW.out]
  clear hW
  go_wp2_with fail
  refine C1.mono ?_
  clear C1 x0 x1
  generalize okLog (LogA.v ⟨rs, s, a, c⟩) = R at *
  rintro e w1 ⟨rfl, hb1⟩
  have hs1 := hb1.size
  have o1 : OwnB w1 w.heap.size (some ⟨w.heap.size + 1, 0, none⟩) 0 [] := ⟨oE.1, ownsRow_block oE.2 (fun k hk => hb1.block k (oE.2.lt k hk).2)⟩
  have D1 : Below w.heap.size w w1 := hbW.trans (hb1.mono hbW.size)
  clear oE
  cases R with
  | false =>
    have HV := HNO.out rfl
    go_wp2
    go_ret
    exact ⟨_, _, [], rfl, HV.symm, o1, D1⟩
  | true =>
    obtain ⟨HV, h4⟩ := HYES.out rfl
    have HVV : Hid (logBytesOf (LogA.v ⟨rs, s, a, c⟩) = framesB rs) := HV
    clear HV HNO HYES
    go_wp2_with fail
    go_loopw [3, 4] (fun b i wr => ∃ (a' : Option Addr) (c' : Nat) (ys : List Int) (k : Nat), b = .slice a' ys.length c' ∧ i = .int .i64 k ∧ k ≤ rs.length ∧ Hid (ys = framesB (rs.take k)) ∧ OwnB wr w.heap.size a' c' ys ∧ Below w.heap.size w wr ∧ Box wr w.heap.size [.slice a rs.length c, .int .i64 s] 28 ∧ (∀ j, (Value.slice a' ys.length c').ownBlock = some j → w.heap.size < j))
      (fun _ i _ => rs.length - (intOf i).toNat)
    case atStart => exact ⟨some ⟨w.heap.size + 1, 0, none⟩, 0, [], 0, rfl, rfl, Nat.zero_le _, by simp [Hid, framesB], o1, D1, HX.out w1 hb1, fun j hj => by cases hj; exact Nat.lt_succ_self _⟩
    case round =>
      obtain ⟨a', c', ys, k, rfl, rfl, hk, hy, ho, hnx, bx, hrow⟩ := hrel
      have hyl : ys.length ≤ k * 100100 := by rw [hy.out]; exact framesB_len rs k
      clear o1 D1
      have x0 := bx.cell 0 _ rfl
      by_cases hlt : k < rs.length
      · obtain ⟨b, off, rfl, hcell, hrd⟩ := HC.out k hlt
        have hbB := rangeR_lt hcell
        have HR : Hid (wr.rangeAt b (off + k * 15) (rs.getD k zeroR).cells) := rangeAt_below hcell hnx hbB
        have C := specPutRec_any (rs.getD k zeroR) wr (hrd.below hnx) (HS.out k hlt)
        have HN : Hid (framesB (rs.take (k + 1)) = framesB (rs.take k) ++ frameOf (putRecOf (rs.getD k zeroR).v)) := framesB_next rs k hlt
        have hpl := putRec_len (rs.getD k zeroR).v
        have hfl := frame_len (rs.getD k zeroR).v
        clear hcell hrd HC HS
        generalize rs.getD k zeroR = z at *
        go_wp2_with (first | (guard_target = wpList _ _ _ (Oper.mk (some 22) _ _ _ _ _ :: _) _ _; refine wpList_load_mid rfl 59 (.tmp 21) rfl b (off + k * 15) rfl z.cells _ HR.out Tryz.underlying59 rfl HI.out ?_) | fail)
        refine C.mono ?_
        clear C HR x0
        rintro e w2 ⟨a2, c2, y2, rfl, HY2, o2, hb2⟩
        have hs2 := hb2.size
        have hy2l : y2.length ≤ 100000 := by rw [HY2.out]; exact hpl
        have C := specFrame_any a2 c2 y2 w2 o2.reads o2.nocap (by omega)
        go_wp2_with fail
        refine C.mono ?_
        clear C
        rintro e w3 ⟨a3, c3, y3, rfl, hy3, o3, hb3⟩
        have HY3 : Hid (y3 = frameOf (putRecOf z.v)) := by rw [Hid, hy3, HY2.out]
        have hy3l : y3.length ≤ 100100 := by rw [HY3.out]; exact hfl
        clear hy3 HY2 o2
        have hb3' : Below wr.heap.size wr w3 := hb2.trans (hb3.mono hs2)
        have hs3 := hb3'.size
        have hnw := hnx.size
        have bx3 := bx.below hb3' bx.lt
        have ho3 : OwnB w3 w.heap.size a' c' ys := ⟨ho.1, ownsRow_block ho.2 (fun j hj => hb3'.block j (ho.2.lt j hj).2)⟩
        have D3 : Below w.heap.size w w3 := hnx.trans (hb3'.mono hnw)
        have hA1 : ys.length + y3.length ≤ 70368744177664 := by omega
        clear hb2 hb3 hb3' bx ho hnx
        go_wp2_with (at_builtin; refine append_bytes rfl _ _ rfl w.heap.size a' c' ys rfl ho3 a3 c3 y3 rfl o3.reads o3.nocap hA1 (by omega) ?_)
        intro a4 c4 y4 w4 HY4 o4 g4
        have bx4 := bx3.block (g4.block w.heap.size bx3.lt (fun e => by have := hrow _ e.symm; omega))
        have D4 : Below w.heap.size w w4 := D3.grown g4 (by omega) (fun j hj => by have := hrow j hj; omega)
        have hrow4 : ∀ j, (Value.slice a4 y4.length c4).ownBlock = some j → w.heap.size < j := by
          intro j hj
          have h1 := (o4.2.lt j hj).1
          have h2 : j ≠ w.heap.size := by
            rintro rfl
            obtain ⟨cur, hc⟩ := ownsRow_at o4.2 hj
            have hbx : w4.heap[w.heap.size]? = some (.cells _ 28 (0, 0)) := bx4
            rw [hbx] at hc
            simp only [Option.some.injEq, Obj.cells.injEq] at hc
            exact absurd hc.2.1 (by decide)
          omega
        have HY5 : Hid (y4 = framesB (rs.take (k + 1))) := by rw [Hid, HN.out, HY4.out, hy.out, HY3.out]
        clear o3 HY4 g4 bx3 ho3 D3 HN HY3
        go_wp2_with fail
        go_roundw
        case rel => exact ⟨a4, c4, y4, k + 1, rfl, by go_num, by omega, HY5, o4, D4, bx4, hrow4⟩
        case measure => simp [intOf]; omega
      · have HE : Hid (ys = logBytesOf (LogA.v ⟨rs, s, a, c⟩)) := by
          have e : k = rs.length := by omega
          rw [Hid, hy.out, HVV.out, e, List.take_length]
        clear HVV
        go_wp2
        go_ret
        exact ⟨a', c', ys, rfl, HE, ho, hnx⟩
set_option maxHeartbeats 4000000 in
set_option maxRecDepth 100000 in
theorem implLogBytes_any (l : LogA) (w : World) (hg : ErrT w) (hr : l.reads w) (hl : l.short 1099511627776) :
    Calls Tryz.prog 14 #[.agg l.cells.toArray] w fun e w' => ∃ a' c' ys, e = .returned (.slice a' ys.length c') ∧ Hid (ys = logBytesOf l.v) ∧ OwnB w' w.heap.size a' c' ys ∧ Below w.heap.size w w' := by
  have HNO : Hid (okLog l.v = false → logBytesOf l.v = []) := fun h => logBytes_no h
  have HYES : Hid (okLog l.v = true → logBytesOf l.v = framesB l.recs ∧ l.recs.length ≤ 4000) := fun h => ⟨logBytes_yes h, by have := (okLog_yes h).1; rw [l.v_len] at this; exact this⟩
  have HS : Hid (∀ k, k < l.recs.length → (l.recs.getD k zeroR).short 1099511627776) := fun k hk => hl.at k hk
  obtain ⟨W, hW, b0, bE, hbW, hsW⟩ := boxes2 w l.cells [] 28 5
  have oE : OwnB W w.heap.size (some ⟨w.heap.size + 1, 0, none⟩) 0 [] := by
    have h1 : (w.alloc (.cells l.cells.toArray 28)).alloc (.cells #[] 5) = W := hW.out
    have h2 := ownB_lit h1
    rw [World.size_alloc] at h2
    exact ⟨h2.1, ownsRow_base h2.2 (fun k hk => by have := (h2.2.lt k hk).1; omega)⟩
  have C1 := implLogOk_any l W (hg.keep hbW) (hr.below hbW) hl
  have HX : Hid (∀ u, Below W.heap.size W u → Box u w.heap.size l.cells 28) := fun u hu => b0.below hu b0.lt
  have HC : Hid (∀ k, k < l.recs.length → ∃ b off, l.a = some ⟨b, off, none⟩ ∧ w.rangeAt b (off + k * 15) (l.recs.getD k zeroR).cells ∧ (l.recs.getD k zeroR).reads w) := fun k hk => by
    obtain ⟨b, off, ha, hc⟩ := hr (by intro e; rw [e] at hk; simp at hk)
    exact ⟨b, off, ha, hc k hk⟩
  have HG : Hid (∀ u, Below w.heap.size w u → ErrT u) := fun u hu => hg.keep hu
  have HI : Hid ((Tryz.prog.info? 59).map (·.size) = some 15) := by rw [Hid]; kernel_rfl
  have hs0 : w.heap.size + 1 < W.heap.size := by omega
  clear hsW bE
  obtain ⟨rs, s, a, c⟩ := l
  simp only [LogA.cells] at *
  have x0 := b0.cell 0 _ rfl
  have x1 := b0.cell 1 _ rfl
  clear b0 hr hl hg
  go_enter Tryz.func14, Tryz.ntmps14
  go_upto_region 2 with fail
  rw [hW.out]
  clear hW
  go_wp2_with fail
  refine C1.mono ?_
  clear C1 x0 x1
  generalize okLog (LogA.v ⟨rs, s, a, c⟩) = R at *
  rintro e w1 ⟨rfl, hb1⟩
  have hs1 := hb1.size
  have o1 : OwnB w1 w.heap.size (some ⟨w.heap.size + 1, 0, none⟩) 0 [] := ⟨oE.1, ownsRow_block oE.2 (fun k hk => hb1.block k (oE.2.lt k hk).2)⟩
  have D1 : Below w.heap.size w w1 := hbW.trans (hb1.mono hbW.size)
  clear oE
  cases R with
  | false =>
    have HV := HNO.out rfl
    go_wp2
    go_ret
    exact ⟨_, _, [], rfl, HV.symm, o1, D1⟩
  | true =>
    obtain ⟨HV, h4⟩ := HYES.out rfl
    have HVV : Hid (logBytesOf (LogA.v ⟨rs, s, a, c⟩) = framesB rs) := HV
    clear HV HNO HYES
    have px0 := (HX.out w1 hb1).cell 0 _ rfl
    go_wp2_with fail
    go_loopw [3, 14] (fun b i wr => ∃ (a' : Option Addr) (c' : Nat) (ys : List Int) (k : Nat), b = .slice a' ys.length c' ∧ i = .int .i64 k ∧ k ≤ rs.length ∧ Hid (ys = framesB (rs.take k)) ∧ OwnB wr w.heap.size a' c' ys ∧ Below w.heap.size w wr ∧ Box wr w.heap.size [.slice a rs.length c, .int .i64 s] 28 ∧ (∀ j, (Value.slice a' ys.length c').ownBlock = some j → w.heap.size < j))
      (fun _ i _ => rs.length - (intOf i).toNat)
    case atStart => exact ⟨some ⟨w.heap.size + 1, 0, none⟩, 0, [], 0, rfl, rfl, Nat.zero_le _, by simp [Hid, framesB], o1, D1, HX.out w1 hb1, fun j hj => by cases hj; exact Nat.lt_succ_self _⟩
    case round =>
      obtain ⟨a', c', ys, k, rfl, rfl, hk, hy, ho, hnx, bx, hrow⟩ := hrel
      have hyl : ys.length ≤ k * 100100 := by rw [hy.out]; exact framesB_len rs k
      clear o1 D1
      clear px0
      by_cases hlt : k < rs.length
      · obtain ⟨b, off, rfl, hcell, hrd⟩ := HC.out k hlt
        have hbB := rangeR_lt hcell
        have HR : Hid (wr.rangeAt b (off + k * 15) (rs.getD k zeroR).cells) := rangeAt_below hcell hnx hbB
        have hrdr := hrd.below hnx
        have hsh := HS.out k hlt
        have HN : Hid (framesB (rs.take (k + 1)) = framesB (rs.take k) ++ frameOf (putRecOf (rs.getD k zeroR).v)) := framesB_next rs k hlt
        have hpl := putRec_len (rs.getD k zeroR).v
        have hfl := frame_len (rs.getD k zeroR).v
        clear hcell hrd HC HS
        generalize rs.getD k zeroR = z at *
        obtain ⟨W1, hW1, q1, hq1, hqs1⟩ := boxes1 wr [.int .i64 0, .int .i64 0, .int .i64 0, .int .i64 0, .int .i64 0, .bool false, .int .i64 0, .slice none 0 0, .slice none 0 0, .bool false, .int .i64 0, .slice none 0 0, .slice none 0 0, .int .i64 0, .slice none 0 0] 59
        obtain ⟨W2, hW2, hw2, hqs2, HT2, _, q2⟩ := rec_out z _ rfl q1
        have N2 : Below wr.heap.size wr W2 := hq1.trans (hw2.below (Nat.le_refl _) (by omega))
        have R2 : Hid (W2.rangeAt wr.heap.size 0 z.cells) := Box.range [] z.cells [] (by simpa using q2)
        have hOz := rec_one z
        have hnw0 := hnx.size
        have C := implPutRec_any z W2 (HG.out _ (hnx.trans (N2.mono hnw0))) (hrdr.below N2) hsh
        have bx2 := bx.below N2 bx.lt
        have ho2 : OwnB W2 w.heap.size a' c' ys := ⟨ho.1, ownsRow_block ho.2 (fun j hj => N2.block j (ho.2.lt j hj).2)⟩
        have hnx2 : Below w.heap.size w W2 := hnx.trans (N2.mono hnw0)
        clear hqs1 hqs2 q1 q2 hq1 hw2 hrdr hsh bx ho hnx N2
        go_wp2_with (first | (guard_target = wpList _ _ _ (Oper.mk (some 17) _ _ _ _ _ :: _) _ _; refine wpList_load_mid rfl 59 (.tmp 16) rfl b (off + k * 15) rfl z.cells _ HR.out Tryz.underlying59 rfl HI.out ?_) | (guard_target = wpList _ _ _ (Oper.mk none (Op.store _ (Operand.tmp 5) _) _ _ _ _ :: _) _ _; refine wpList_store_mid rfl 59 (.tmp 5) (.tmp 17) rfl wr.heap.size 0 z.cells.toArray rfl rfl (by rw [hW1.out]; exact HT2.out) HI.out hOz ?_) | (guard_target = wpList _ _ _ (Oper.mk (some 19) _ _ _ _ _ :: _) _ _; refine wpList_load_mid rfl 59 (.tmp 5) rfl wr.heap.size 0 rfl z.cells _ (by rw [hW1.out, hW2.out]; exact R2.out) Tryz.underlying59 rfl HI.out ?_) | fail)
        rw [hW1.out, hW2.out]
        clear hW1 hW2 HT2 R2 hOz
        have bx := bx2
        have ho := ho2
        have hnx := hnx2
        clear bx2 ho2 hnx2
        refine C.mono ?_
        clear C HR
        rintro e w2 ⟨a2, c2, y2, rfl, HY2, o2, hb2⟩
        have hs2 := hb2.size
        have hy2l : y2.length ≤ 100000 := by rw [HY2.out]; exact hpl
        have C := implFrame_any a2 c2 y2 w2 o2.reads o2.nocap (by omega)
        go_wp2_with fail
        refine C.mono ?_
        clear C
        rintro e w3 ⟨a3, c3, y3, rfl, hy3, o3, hb3⟩
        have HY3 : Hid (y3 = frameOf (putRecOf z.v)) := by rw [Hid, hy3, HY2.out]
        have hy3l : y3.length ≤ 100100 := by rw [HY3.out]; exact hfl
        clear hy3 HY2 o2
        have hb3' : Below W2.heap.size W2 w3 := hb2.trans (hb3.mono hs2)
        have hs3 := hb3'.size
        have hnw := hnx.size
        have bx3 := bx.below hb3' bx.lt
        have ho3 : OwnB w3 w.heap.size a' c' ys := ⟨ho.1, ownsRow_block ho.2 (fun j hj => hb3'.block j (ho.2.lt j hj).2)⟩
        have D3 : Below w.heap.size w w3 := hnx.trans (hb3'.mono hnw)
        have hA1 : ys.length + y3.length ≤ 70368744177664 := by omega
        clear hb2 hb3 hb3' bx ho hnx
        go_wp2_with (at_builtin; refine append_bytes rfl _ _ rfl w.heap.size a' c' ys rfl ho3 a3 c3 y3 rfl o3.reads o3.nocap hA1 (by omega) ?_)
        intro a4 c4 y4 w4 HY4 o4 g4
        have bx4 := bx3.block (g4.block w.heap.size bx3.lt (fun e => by have := hrow _ e.symm; omega))
        have D4 : Below w.heap.size w w4 := D3.grown g4 (by omega) (fun j hj => by have := hrow j hj; omega)
        have hrow4 : ∀ j, (Value.slice a4 y4.length c4).ownBlock = some j → w.heap.size < j := by
          intro j hj
          have h1 := (o4.2.lt j hj).1
          have h2 : j ≠ w.heap.size := by
            rintro rfl
            obtain ⟨cur, hc⟩ := ownsRow_at o4.2 hj
            have hbx : w4.heap[w.heap.size]? = some (.cells _ 28 (0, 0)) := bx4
            rw [hbx] at hc
            simp only [Option.some.injEq, Obj.cells.injEq] at hc
            exact absurd hc.2.1 (by decide)
          omega
        have HY5 : Hid (y4 = framesB (rs.take (k + 1))) := by rw [Hid, HN.out, HY4.out, hy.out, HY3.out]
        clear o3 HY4 g4 bx3 ho3 D3 HN HY3
        go_wp2_with fail
        go_roundw
        case rel => exact ⟨a4, c4, y4, k + 1, rfl, by go_num, by omega, HY5, o4, D4, bx4, hrow4⟩
        case measure => simp [intOf]; omega
      · have HE : Hid (ys = logBytesOf (LogA.v ⟨rs, s, a, c⟩)) := by
          have e : k = rs.length := by omega
          rw [Hid, hy.out, HVV.out, e, List.take_length]
        clear HVV
        go_wp2
        go_ret
        exact ⟨a', c', ys, rfl, HE, ho, hnx⟩
end Go.Proofs.YtbpdocjkhmiimabGreatDoor
