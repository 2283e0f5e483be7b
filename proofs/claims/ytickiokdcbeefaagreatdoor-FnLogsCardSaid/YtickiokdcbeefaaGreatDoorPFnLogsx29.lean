/- Several texts in one, in their order. -/
import Derived.Test.YtickiokdcbeefaaGreatDoorPFnLogsx5
import Derived.Test.YtickiokdcbeefaaGreatDoorPFnLogsx28
import Derived.Test.YtickiokdcbeefaaGreatDoorPFnLogsx11
import Derived.Test.YtickiokdcbeefaaGreatDoorPFnLogsx6
import Derived.Test.YtickiokdcbeefaaGreatDoorPFnLogsx18
import Derived.Test.YtickiokdcbeefaaGreatDoorPFnLogsx10
import Derived.Deep.QuietTactic
import Derived.BigQuiet
import Derived.Test.YtickiokdcbeefaaGreatDoorPFnLogsx13
import Derived.Test.YtickiokdcbeefaaGreatDoorPFnLogsx1
/- Plain mathematics: a text comes back of its bytes. -/
namespace Go.Proofs.YtickiokdcbeefaaGreatDoor

end Go.Proofs.YtickiokdcbeefaaGreatDoor

/- The walks of impl.putSlot and impl.PutPage. -/
namespace Go.Proofs.YtickiokdcbeefaaGreatDoor
open Go.RowKit

theorem strOf_size (y : List Int) : (strOf y).size = y.length := by simp [strOf, ByteArray.size]
theorem sBytes_strOf (y : List Int) (h : Bytes y) : sBytes (strOf y) = y := by
  unfold sBytes strOf
  simp only [List.map_map]
  conv => rhs; rw [← List.map_id y]
  apply List.map_congr_left
  intro z hz
  have := h z hz
  simp
  omega
theorem putText_put (o : ObjV) : putTextOf (strOf (putObjOf o)) = putOf (putObjOf o).length ++ putObjOf o := by
  unfold putTextOf
  rw [strOf_size, sBytes_strOf _ (putObj_byte o)]
set_option maxHeartbeats 400000 in
set_option maxRecDepth 100000 in
theorem putSlot_any (a : Option Addr) (c : Nat) (xs : List Int) (s : SlotA) (w : World) (hg : ErrT w) (hx : Reads w a xs) (hc : a = none → c = 0) (hr : s.reads w) (hl : Fit [s]) (hxl : xs.length ≤ 1000000) :
    Calls Tryz.prog 34 #[.slice a xs.length c, .agg s.cells.toArray] w fun e w' => ∃ a' c' ys, e = .returned (.slice a' ys.length c') ∧ Hid (ys = xs ++ (putOf (putObjOf s.v.o).length ++ putObjOf s.v.o)) ∧ OwnB w' w.heap.size a' c' ys ∧ Below w.heap.size w w' := by
  obtain ⟨h1, h2⟩ := hl s (List.mem_singleton.2 rfl)
  obtain ⟨W, hW, b0, hbW, hsW⟩ := boxes1 w s.cells 39
  have C1 := implPutObj_any s.v.o s.aI s.cI s.aR s.cR W (hg.keep hbW) (ReadsO.below hr hbW) (by omega) (by omega)
  have HT : Hid (_ = _) := putText_put s.v.o
  have hpl := putObj_len s.v.o
  have HC : Hid (a = none → c = 0) := hc
  simp only [SlotA.cells] at *
  clear hc
  go_enter Tryz.func34, Tryz.ntmps34
  go_wp2_with fail
  rw [hW.out]
  refine C1.mono ?_
  rintro e w1 ⟨a1, c1, y1, rfl, HY1, ho1, hb1⟩
  have hcv := run_text_own ho1
  have B1 : Below w.heap.size w w1 := hbW.trans (hb1.mono hbW.size)
  have hyl : (strOf y1).size ≤ 1000 := by rw [strOf_size, HY1.out]; exact hpl
  have HS : Hid (putTextOf (strOf y1) = putOf (putObjOf s.v.o).length ++ putObjOf s.v.o) := by rw [Hid, HY1.out]; exact HT.out
  generalize strOf y1 = t1 at *
  clear C1 HT
  go_wp2_with fail
  refine (implPutText_any a c xs t1 w1 (hx.below B1) HC.out (by omega)).mono ?_
  rintro e w2 ⟨a2, c2, y2, rfl, hy2, ho2, hb2⟩
  have HY2 : Hid (y2 = xs ++ (putOf (putObjOf s.v.o).length ++ putObjOf s.v.o)) := by rw [Hid, hy2, HS.out]
  clear hy2
  go_wp2
  go_ret
  exact ⟨a2, c2, y2, rfl, HY2, ho2.base B1.size, B1.trans (hb2.mono B1.size)⟩

end Go.Proofs.YtickiokdcbeefaaGreatDoor

/- The walk of impl.PutRec. -/
namespace Go.Proofs.YtickiokdcbeefaaGreatDoor
open Go.RowKit

theorem flagInt_any (b : Bool) (w : World) : Calls Tryz.prog 35 #[.bool b] w fun e w' => e = .returned (.int .i64 (if b then 1 else 0)) ∧ w' = w := by
  cases b
  · go_enter Tryz.func35, Tryz.ntmps35
    go_wp2
    go_ret
    exact ⟨rfl, rfl⟩
  · go_enter Tryz.func35, Tryz.ntmps35
    go_wp2
    go_ret
    exact ⟨rfl, rfl⟩
theorem bodyR_parts {r : RecV} (h : okR r = true) : bodyR r = ((((headR r).flatMap putOf ++ (putOf (putObjOf r.bf.o).length ++ putObjOf r.bf.o)) ++ (putOf (putObjOf r.af.o).length ++ putObjOf r.af.o)) ++ putOf r.txs.length) ++ r.txs.flatMap putLive := by
  have d := okR_bd h
  unfold bodyR
  rw [putSlot_one d.bf, putSlot_one d.af]

set_option maxHeartbeats 4000000 in
set_option maxRecDepth 100000 in
theorem implPutRec_any (r : RecA) (w : World) (hg : ErrT w) (hr : r.reads w) (hl : r.short 1099511627776) :
    Calls Tryz.prog 14 #[.agg r.cells.toArray] w fun e w' => ∃ a' c' ys, e = .returned (.slice a' ys.length c') ∧ Hid (ys = putRecOf r.v) ∧ OwnB w' w.heap.size a' c' ys ∧ Below w.heap.size w w' := by
  obtain ⟨W, hW, b0, hbW, hsW⟩ := boxes1 w r.cells 42
  have C1 := implRecOk_any r W (hg.keep hbW) (hr.below hbW) hl
  have HPT : Hid (okR r.v = true → putRecOf r.v = _) := fun h => (putRec_ok h).trans (bodyR_parts h)
  have HPF : Hid (okR r.v = false → putRecOf r.v = []) := fun h => putRec_no h
  have HT20 : Hid (okR r.v = true → r.txs.length ≤ 20) := fun h => okR_txs h
  have HX : Hid (∀ u, Below W.heap.size W u → Box u w.heap.size r.cells 42) := fun u hu => b0.below hu b0.lt
  generalize putRecOf r.v = R at *
  simp only [RecA.cells] at *
  have HC : Hid (∀ w', Box w' w.heap.size [.int .i64 r.lsn, .int .i64 r.tx, .int .i64 r.prev, .int .i64 r.kind, .int .i64 r.oid, .bool r.bf.v.has, .int .i64 r.bf.v.o.kind, .slice r.bf.aI r.bf.v.o.ints.length r.bf.cI, .slice r.bf.aR r.bf.v.o.refs.length r.bf.cR, .bool r.af.v.has, .int .i64 r.af.v.o.kind, .slice r.af.aI r.af.v.o.ints.length r.af.cI, .slice r.af.aR r.af.v.o.refs.length r.af.cR, .int .i64 r.next, .slice r.aL r.txs.length r.cL] 42 → w'.cell? ⟨w.heap.size, 5, none⟩ = some (.bool r.bf.v.has) ∧ w'.cell? ⟨w.heap.size, 6, none⟩ = some (.int .i64 r.bf.v.o.kind) ∧ w'.cell? ⟨w.heap.size, 7, none⟩ = some (.slice r.bf.aI r.bf.v.o.ints.length r.bf.cI) ∧ w'.cell? ⟨w.heap.size, 8, none⟩ = some (.slice r.bf.aR r.bf.v.o.refs.length r.bf.cR) ∧ w'.cell? ⟨w.heap.size, 9, none⟩ = some (.bool r.af.v.has) ∧ w'.cell? ⟨w.heap.size, 10, none⟩ = some (.int .i64 r.af.v.o.kind) ∧ w'.cell? ⟨w.heap.size, 11, none⟩ = some (.slice r.af.aI r.af.v.o.ints.length r.af.cI) ∧ w'.cell? ⟨w.heap.size, 12, none⟩ = some (.slice r.af.aR r.af.v.o.refs.length r.af.cR)) := fun w' b => ⟨b.cell 5 _ rfl, b.cell 6 _ rfl, b.cell 7 _ rfl, b.cell 8 _ rfl, b.cell 9 _ rfl, b.cell 10 _ rfl, b.cell 11 _ rfl, b.cell 12 _ rfl⟩
  clear hsW
  go_enter Tryz.func14, Tryz.ntmps14
  go_wp2_with fail
  rw [hW.out]
  clear hW
  refine C1.mono ?_
  clear C1 b0
  rintro e w1 ⟨rfl, hb1⟩
  have B1 : Below w.heap.size w w1 := hbW.trans (hb1.mono hbW.size)
  cases hok : okR r.v with
  | false =>
    have HR : Hid (R = []) := HPF.out hok
    clear hok HPT HPF HT20
    go_wp2
    go_ret
    exact ⟨_, 0, [], rfl, HR.out.symm, (own_lit0 w1).base B1.size, B1.alloc B1.size _⟩
  | true =>
    have HR : Hid (R = _) := HPT.out hok
    have h20 := HT20.out hok
    clear hok HPT HPF HT20
    obtain ⟨x0, x1, x2, x3, x4, _, _, _, _, _, _, _, _, x13, _⟩ := fifteen (HX.out w1 hb1)
    go_wp2_with fail
    refine (putInts_any none 0 [] _ _ [r.lsn, r.tx, r.prev, r.kind, r.oid, r.next] _ ⟨by simp, by simp⟩ (fun _ => rfl) (readsI_lit w1 [r.lsn, r.tx, r.prev, r.kind, r.oid, r.next] _) (by simp)).mono ?_
    clear x0 x1 x2 x3 x4 x13
    rintro e w2 ⟨a2, c2, y2, rfl, hy2, ho2, hb2⟩
    have HY2 : Hid (y2 = (headR r.v).flatMap putOf) := by rw [Hid, hy2]; rfl
    have hyl2 : y2.length ≤ 390 := by rw [HY2.out]; exact flatN_len _
    have hbA : Below w1.heap.size w1 (w1.alloc (.cells #[.int .i64 r.lsn, .int .i64 r.tx, .int .i64 r.prev, .int .i64 r.kind, .int .i64 r.oid, .int .i64 r.next] 3)) := (Below.refl _ _).alloc (Nat.le_refl _) _
    have N2 : Below w1.heap.size w1 w2 := hbA.trans (hb2.mono hbA.size)
    have M2 : Below W.heap.size W w2 := hb1.trans (N2.mono hb1.size)
    have B2 : Below w.heap.size w w2 := B1.trans (N2.mono B1.size)
    have ho2' : OwnB w2 w.heap.size a2 c2 y2 := ho2.base (Nat.le_trans B1.size hbA.size)
    clear hy2 hbA hb2 ho2 N2
    go_wp2_with fail
    refine wp_region_held_drew (S := fun w' => w'.cell? ⟨w.heap.size, 5, none⟩ = some (.bool r.bf.v.has) ∧ w'.cell? ⟨w.heap.size, 6, none⟩ = some (.int .i64 r.bf.v.o.kind) ∧ w'.cell? ⟨w.heap.size, 7, none⟩ = some (.slice r.bf.aI r.bf.v.o.ints.length r.bf.cI) ∧ w'.cell? ⟨w.heap.size, 8, none⟩ = some (.slice r.bf.aR r.bf.v.o.refs.length r.bf.cR) ∧ w'.cell? ⟨w.heap.size, 9, none⟩ = some (.bool r.af.v.has) ∧ w'.cell? ⟨w.heap.size, 10, none⟩ = some (.int .i64 r.af.v.o.kind) ∧ w'.cell? ⟨w.heap.size, 11, none⟩ = some (.slice r.af.aI r.af.v.o.ints.length r.af.cI) ∧ w'.cell? ⟨w.heap.size, 12, none⟩ = some (.slice r.af.aR r.af.v.o.refs.length r.af.cR)) (by kernel_rfl) (HC.out _ (HX.out _ M2.drew)) (fun hHeld => ?_)
    refine wpAnyH_take (i := 0) (v := .slice a2 y2.length c2) rfl (by kernel_rfl) (by kernel_rfl) (by kernel_rfl) (fun _ _ _ h => h) (Or.inl ⟨by rfl, ?_⟩) hHeld ?_
    · intro w' hSw
      go_simp <;> rfl
    try simp only [Act.put, List.getElem_toArray, List.getElem_cons_zero, List.setIfInBounds_toArray, List.set_cons_zero, List.set_cons_succ]
    refine wpAnyH_take (i := 1) (v := .pointer (some ⟨w.heap.size, 5, none⟩)) rfl (by kernel_rfl) (by kernel_rfl) (by kernel_rfl) (fun _ _ _ h => h) (Or.inl ⟨by rfl, ?_⟩) hHeld ?_
    · intro w' hSw
      go_simp <;> rfl
    try simp only [Act.put, List.getElem_toArray, List.getElem_cons_zero, List.getElem_cons_succ, List.setIfInBounds_toArray, List.set_cons_zero, List.set_cons_succ]
    refine wpAnyH_take (i := 2) (v := .agg #[.bool r.bf.v.has, .int .i64 r.bf.v.o.kind, .slice r.bf.aI r.bf.v.o.ints.length r.bf.cI, .slice r.bf.aR r.bf.v.o.refs.length r.bf.cR]) rfl (by kernel_rfl) (by kernel_rfl) (by kernel_rfl) (fun _ _ _ h => h) (Or.inl ⟨by rfl, ?_⟩) hHeld ?_
    · intro w' hSw
      go_simp <;> rfl
    try simp only [Act.put, List.getElem_toArray, List.getElem_cons_zero, List.getElem_cons_succ, List.setIfInBounds_toArray, List.set_cons_zero, List.set_cons_succ]
    refine wpAnyH_take (i := 4) (v := .pointer (some ⟨w.heap.size, 9, none⟩)) rfl (by kernel_rfl) (by kernel_rfl) (by kernel_rfl) (fun _ _ _ h => h) (Or.inl ⟨by rfl, ?_⟩) hHeld ?_
    · intro w' hSw
      go_simp <;> rfl
    try simp only [Act.put, List.getElem_toArray, List.getElem_cons_zero, List.getElem_cons_succ, List.setIfInBounds_toArray, List.set_cons_zero, List.set_cons_succ]
    refine wpAnyH_take (i := 5) (v := .agg #[.bool r.af.v.has, .int .i64 r.af.v.o.kind, .slice r.af.aI r.af.v.o.ints.length r.af.cI, .slice r.af.aR r.af.v.o.refs.length r.af.cR]) rfl (by kernel_rfl) (by kernel_rfl) (by kernel_rfl) (fun _ _ _ h => h) (Or.inl ⟨by rfl, ?_⟩) hHeld ?_
    · intro w' hSw
      go_simp <;> rfl
    try simp only [Act.put, List.getElem_toArray, List.getElem_cons_zero, List.getElem_cons_succ, List.setIfInBounds_toArray, List.set_cons_zero, List.set_cons_succ]
    refine wpAnyH_ready (rs := [3]) (by kernel_rfl) (by simp) ?_
    refine AllReadyH.cons rfl (fun K hK => ?_) AllReadyH.nil
    go_simp
    refine (putSlot_any a2 c2 y2 r.bf _ (hg.keep B2.drew) (ho2'.reads.below (Below.refl _ _).drew) ho2'.nocap (ReadsO.below hr.bf B2.drew) (one_fit hl.bf) (by omega)).mono ?_
    rintro e w3 ⟨a3, c3, y3, rfl, HY3, ho3, hb3⟩
    have hpb := putObj_len r.bf.v.o
    have hpo := (putOf_len ((putObjOf r.bf.v.o).length : Int)).2
    have hyl3 : y3.length ≤ 1500 := by rw [HY3.out]; simp only [List.length_append]; omega
    have M3 : Below W.heap.size W w3 := M2.drew.trans (hb3.mono M2.drew.size)
    have B3 : Below w.heap.size w w3 := B2.drew.trans (hb3.mono B2.drew.size)
    have ho3' : OwnB w3 w.heap.size a3 c3 y3 := ho3.base B2.size
    refine hK.out _ _ (HC.out _ (HX.out _ M3)) (fun hHeld => ?_)
    clear hK K
    try simp only [Act.put, List.getElem_toArray, List.getElem_cons_zero, List.getElem_cons_succ, List.setIfInBounds_toArray, List.set_cons_zero, List.set_cons_succ]
    refine wpAnyH_ready (rs := [6]) (by kernel_rfl) (by simp) ?_
    refine AllReadyH.cons rfl (fun K hK => ?_) AllReadyH.nil
    go_simp
    refine (putSlot_any a3 c3 y3 r.af _ (hg.keep B3) ho3'.reads ho3'.nocap (ReadsO.below hr.af B3) (one_fit hl.af) (by omega)).mono ?_
    rintro e w4 ⟨a4, c4, y4, rfl, HY4, ho4, hb4⟩
    have hpb' := putObj_len r.af.v.o
    have hpo' := (putOf_len ((putObjOf r.af.v.o).length : Int)).2
    have hyl4 : y4.length ≤ 3000 := by rw [HY4.out]; simp only [List.length_append]; omega
    have M4 : Below W.heap.size W w4 := M3.trans (hb4.mono M3.size)
    have B4 : Below w.heap.size w w4 := B3.trans (hb4.mono B3.size)
    have ho4' : OwnB w4 w.heap.size a4 c4 y4 := ho4.base B3.size
    refine hK.out _ _ (HC.out _ (HX.out _ M4)) (fun hHeld => ?_)
    clear hK K
    try simp only [Act.put, List.getElem_toArray, List.getElem_cons_zero, List.getElem_cons_succ, List.setIfInBounds_toArray, List.set_cons_zero, List.set_cons_succ]
    refine wpAnyH_take (i := 7) (v := .slice a4 y4.length c4) rfl (by kernel_rfl) (by kernel_rfl) (by kernel_rfl) (fun _ _ _ h => h) (Or.inl ⟨by rfl, ?_⟩) hHeld ?_
    · intro w' hSw
      go_simp <;> rfl
    try simp only [Act.put, List.getElem_toArray, List.getElem_cons_zero, List.getElem_cons_succ, List.setIfInBounds_toArray, List.set_cons_zero, List.set_cons_succ]
    refine wpAnyH_done (by kernel_rfl) ?_ _
    have HP4 : Hid (y4 = (((headR r.v).flatMap putOf ++ (putOf (putObjOf r.bf.v.o).length ++ putObjOf r.bf.v.o)) ++ (putOf (putObjOf r.af.v.o).length ++ putObjOf r.af.v.o))) := by rw [Hid, HY4.out, HY3.out, HY2.out]
    have x14 := (HX.out w4 M4).cell 14 _ rfl
    clear hHeld HY4 HY3 HY2 ho4 ho3 ho3' ho2' hb3 hb4 hyl2 hyl3 hpb hpo hpb' hpo' M2 M3 B2 B3 HC
    go_wp2_with fail
    refine (putInts_any a4 c4 y4 _ _ [(r.txs.length : Int)] _ (ho4'.reads.below ((Below.refl _ _).alloc (Nat.le_refl _) _)) ho4'.nocap (readsI_one w4 _ _) (by simp only [List.length_cons, List.length_nil]; omega)).mono ?_
    clear x14
    rintro e w5 ⟨a5, c5, y5, rfl, hy5, ho5, hb5⟩
    have hbA : Below w4.heap.size w4 (w4.alloc (.cells #[.int .i64 (r.txs.length : Int)] 3)) := (Below.refl _ _).alloc (Nat.le_refl _) _
    have N5 : Below w4.heap.size w4 w5 := hbA.trans (hb5.mono hbA.size)
    have M5 : Below W.heap.size W w5 := M4.trans (N5.mono M4.size)
    have B5 : Below w.heap.size w w5 := B4.trans (N5.mono B4.size)
    have HY5 : Hid (y5 = y4 ++ putOf (r.txs.length : Int)) := by rw [Hid, hy5]; simp
    have ho5' : OwnB w5 w.heap.size a5 c5 y5 := ho5.base (Nat.le_trans B4.size hbA.size)
    have hyl5 : y5.length ≤ 4000 := by have := (putOf_len (r.txs.length : Int)).2; rw [HY5.out]; simp only [List.length_append]; omega
    have HRR : Hid (R = y5 ++ r.txs.flatMap putLive) := by rw [Hid, HR.out, HY5.out, HP4.out]; rfl
    have x14 := (HX.out w5 M5).cell 14 _ rfl
    have hrt := hr.txs.below B5
    clear hy5 hb5 ho5 hbA N5 HY5 HP4 HR ho4' M4 B4 hyl4
    generalize r.txs = ls at *
    generalize r.aL = aL at *
    generalize r.cL = cL at *
    go_wp2_with fail
    clear x14
    go_loopw [3, 40] (fun b i wr => ∃ (a' : Option Addr) (c' : Nat) (ys : List Int) (k : Nat), b = .slice a' ys.length c' ∧ i = .int .i64 k ∧ k ≤ ls.length ∧ Hid (ys = y5 ++ (ls.take k).flatMap putLive) ∧ OwnB wr w.heap.size a' c' ys ∧ Below w5.heap.size w5 wr)
      (fun _ i _ => ls.length - (intOf i).toNat)
    case atStart => exact ⟨a5, c5, y5, 0, rfl, rfl, Nat.zero_le _, by simp [Hid], ho5', Below.refl _ _⟩
    case round =>
      obtain ⟨a', c', ys, k, rfl, rfl, hk, hy, ho, hbl⟩ := hrel
      clear ho5'
      have Bl : Below w.heap.size w wr := B5.trans (hbl.mono B5.size)
      have hyl : ys.length ≤ 10000 := by
        have h1 := flatL_len (ls.take k)
        rw [hy.out, List.length_append]
        rw [List.length_take] at h1
        omega
      by_cases hlt : k < ls.length
      · obtain ⟨b, off, rfl, hcell⟩ := (hrt.below hbl) (by intro e; rw [e] at hlt; simp at hlt)
        obtain ⟨c0, c1, c2'⟩ := hcell k hlt
        have HF : Hid (_ = _) := flatL_step ls k hlt
        have HPL : Hid (∀ z : LiveV, putLive z = (putOf z.tx ++ putOf z.last) ++ putOf (if z.aborts then 1 else 0)) := fun _ => rfl
        clear hcell hrt
        generalize ls.getD k zeroL = z at *
        obtain ⟨W6, hW6, b6, hb6, hs6⟩ := boxes1 wr [.int .i64 z.tx, .int .i64 z.last, .bool z.aborts] 62
        have HC6 : Hid (∀ w', Box w' wr.heap.size [.int .i64 z.tx, .int .i64 z.last, .bool z.aborts] 62 → w'.cell? ⟨wr.heap.size, 0, none⟩ = some (.int .i64 z.tx) ∧ w'.cell? ⟨wr.heap.size, 1, none⟩ = some (.int .i64 z.last) ∧ w'.cell? ⟨wr.heap.size, 2, none⟩ = some (.bool z.aborts)) := fun w' b => ⟨b.cell 0 _ rfl, b.cell 1 _ rfl, b.cell 2 _ rfl⟩
        have l6 := b6.lt
        have L6 : Below wr.heap.size wr W6 := hb6
        clear hs6 hb6
        go_wp2_with fail
        rw [hW6.out]
        clear hW6 c0 c1 c2'
        refine wp_region_held_drew (S := fun w' => w'.cell? ⟨wr.heap.size, 0, none⟩ = some (.int .i64 z.tx) ∧ w'.cell? ⟨wr.heap.size, 1, none⟩ = some (.int .i64 z.last) ∧ w'.cell? ⟨wr.heap.size, 2, none⟩ = some (.bool z.aborts)) (by kernel_rfl) (HC6.out _ (b6.below (Below.refl _ _).drew b6.lt)) (fun hHeld => ?_)
        refine wpAnyH_take (i := 0) (v := (.slice a' ys.length c')) rfl (by kernel_rfl) (by kernel_rfl) (by kernel_rfl) (fun _ _ _ h => h) (Or.inl ⟨by rfl, ?_⟩) hHeld ?_
        · intro w' hSw
          go_simp <;> rfl
        try simp only [Act.put, List.getElem_toArray, List.getElem_cons_zero, List.setIfInBounds_toArray, List.set_cons_zero, List.set_cons_succ]
        refine wpAnyH_take (i := 1) (v := .pointer (some ⟨wr.heap.size, 0, none⟩)) rfl (by kernel_rfl) (by kernel_rfl) (by kernel_rfl) (fun _ _ _ h => h) (Or.inl ⟨by rfl, ?_⟩) hHeld ?_
        · intro w' hSw
          go_simp <;> rfl
        try simp only [Act.put, List.getElem_toArray, List.getElem_cons_zero, List.getElem_cons_succ, List.setIfInBounds_toArray, List.set_cons_zero, List.set_cons_succ]
        refine wpAnyH_take (i := 2) (v := .int .i64 z.tx) rfl (by kernel_rfl) (by kernel_rfl) (by kernel_rfl) (fun _ _ _ h => h) (Or.inl ⟨by rfl, ?_⟩) hHeld ?_
        · intro w' hSw
          go_simp <;> rfl
        try simp only [Act.put, List.getElem_toArray, List.getElem_cons_zero, List.getElem_cons_succ, List.setIfInBounds_toArray, List.set_cons_zero, List.set_cons_succ]
        refine wpAnyH_take (i := 3) (v := .pointer (some ⟨wr.heap.size, 1, none⟩)) rfl (by kernel_rfl) (by kernel_rfl) (by kernel_rfl) (fun _ _ _ h => h) (Or.inl ⟨by rfl, ?_⟩) hHeld ?_
        · intro w' hSw
          go_simp <;> rfl
        try simp only [Act.put, List.getElem_toArray, List.getElem_cons_zero, List.getElem_cons_succ, List.setIfInBounds_toArray, List.set_cons_zero, List.set_cons_succ]
        refine wpAnyH_take (i := 4) (v := .int .i64 z.last) rfl (by kernel_rfl) (by kernel_rfl) (by kernel_rfl) (fun _ _ _ h => h) (Or.inl ⟨by rfl, ?_⟩) hHeld ?_
        · intro w' hSw
          go_simp <;> rfl
        try simp only [Act.put, List.getElem_toArray, List.getElem_cons_zero, List.getElem_cons_succ, List.setIfInBounds_toArray, List.set_cons_zero, List.set_cons_succ]
        refine wpAnyH_take (i := 5) (v := .pointer (some ⟨wr.heap.size, 2, none⟩)) rfl (by kernel_rfl) (by kernel_rfl) (by kernel_rfl) (fun _ _ _ h => h) (Or.inl ⟨by rfl, ?_⟩) hHeld ?_
        · intro w' hSw
          go_simp <;> rfl
        try simp only [Act.put, List.getElem_toArray, List.getElem_cons_zero, List.getElem_cons_succ, List.setIfInBounds_toArray, List.set_cons_zero, List.set_cons_succ]
        refine wpAnyH_take (i := 6) (v := .bool z.aborts) rfl (by kernel_rfl) (by kernel_rfl) (by kernel_rfl) (fun _ _ _ h => h) (Or.inl ⟨by rfl, ?_⟩) hHeld ?_
        · intro w' hSw
          go_simp <;> rfl
        try simp only [Act.put, List.getElem_toArray, List.getElem_cons_zero, List.getElem_cons_succ, List.setIfInBounds_toArray, List.set_cons_zero, List.set_cons_succ]
        refine wpAnyH_ready (rs := [7]) (by kernel_rfl) (by simp) ?_
        refine AllReadyH.cons rfl (fun K hK => ?_) AllReadyH.nil
        go_simp
        refine (flagInt_any z.aborts _).mono ?_
        rintro e u ⟨rfl, hu⟩
        rw [hu]
        clear hu u
        generalize hfl : (if z.aborts then (1 : Int) else 0) = fl at *
        refine hK.out _ _ (HC6.out _ (b6.below (Below.refl _ _).drew b6.lt)) (fun hHeld => ?_)
        clear hK K
        try simp only [Act.put, List.getElem_toArray, List.getElem_cons_zero, List.getElem_cons_succ, List.setIfInBounds_toArray, List.set_cons_zero, List.set_cons_succ]
        refine wpAnyH_ready (rs := [8]) (by kernel_rfl) (by simp) ?_
        refine AllReadyH.cons rfl (fun K hK => ?_) AllReadyH.nil
        go_simp
        refine hK.out _ _ (HC6.out _ (b6.below ((Below.refl _ _).drew.alloc (Nat.le_refl _) _) b6.lt)) (fun hHeld => ?_)
        clear hK K
        try simp only [Act.put, List.getElem_toArray, List.getElem_cons_zero, List.getElem_cons_succ, List.setIfInBounds_toArray, List.set_cons_zero, List.set_cons_succ]
        refine wpAnyH_ready (rs := [9]) (by kernel_rfl) (by simp) ?_
        refine AllReadyH.cons rfl (fun K hK => ?_) AllReadyH.nil
        go_simp
        have L7 : Below W6.heap.size W6 ((W6.drew).alloc (.cells #[.int .i64 z.tx, .int .i64 z.last, .int .i64 fl] 3)) := (Below.refl _ _).drew.alloc (Nat.le_refl _) _
        have L7' : Below wr.heap.size wr ((W6.drew).alloc (.cells #[.int .i64 z.tx, .int .i64 z.last, .int .i64 fl] 3)) := L6.trans (L7.mono L6.size)
        refine (putInts_any a' c' ys _ _ [z.tx, z.last, fl] _ (ho.reads.below L7') ho.nocap (readsI_lit W6.drew [z.tx, z.last, fl] _) (by simp only [List.length_cons, List.length_nil]; omega)).mono ?_
        rintro e w8 ⟨a8, c8, y8, rfl, hy8, ho8, hb8⟩
        have L8 : Below wr.heap.size wr w8 := L7'.trans (hb8.mono L7'.size)
        have M8 : Below W6.heap.size W6 w8 := L7.trans (hb8.mono L7.size)
        have HY : Hid (y8 = y5 ++ (ls.take (k + 1)).flatMap putLive) := by rw [Hid, hy8, hy.out, HF.out, HPL.out, hfl]; simp
        have ho8' : OwnB w8 w.heap.size a8 c8 y8 := ho8.base (Nat.le_trans Bl.size L7'.size)
        refine hK.out _ _ (HC6.out _ (b6.below M8 b6.lt)) (fun hHeld => ?_)
        clear hK K
        try simp only [Act.put, List.getElem_toArray, List.getElem_cons_zero, List.getElem_cons_succ, List.setIfInBounds_toArray, List.set_cons_zero, List.set_cons_succ]
        refine wpAnyH_take (i := 10) (v := .slice a8 y8.length c8) rfl (by kernel_rfl) (by kernel_rfl) (by kernel_rfl) (fun _ _ _ h => h) (Or.inl ⟨by rfl, ?_⟩) hHeld ?_
        · intro w' hSw
          go_simp <;> rfl
        try simp only [Act.put, List.getElem_toArray, List.getElem_cons_zero, List.getElem_cons_succ, List.setIfInBounds_toArray, List.set_cons_zero, List.set_cons_succ]
        refine wpAnyH_done (by kernel_rfl) ?_ _
        clear hHeld hy8 hb8 ho8 b6 HC6 hfl HF HPL
        go_wp2_with fail
        go_roundw
        case rel => exact ⟨a8, c8, y8, k + 1, rfl, by go_num, by omega, HY, ho8', hbl.trans (L8.mono hbl.size)⟩
        case measure => simp [intOf]; omega
      · have HE : Hid (ys = R) := by rw [Hid, hy.out, HRR.out, List.take_of_length_le (by omega)]
        go_wp2
        go_ret
        exact ⟨a', c', ys, rfl, HE, ho, Bl⟩
end Go.Proofs.YtickiokdcbeefaaGreatDoor

/- The walk of impl.readLive. -/
namespace Go.Proofs.YtickiokdcbeefaaGreatDoor
open Go.RowKit

def LiveAns (x : Option (LiveV × Nat)) (e : Ending) : Prop := match x with
  | some (t, q) => e = .returned (.tuple #[.agg t.cells.toArray, .int .i64 (q : Nat), .bool true])
  | none => e = .returned (.tuple #[.agg zeroL.cells.toArray, .int .i64 0, .bool false])
theorem liveAns_none {x : Option (LiveV × Nat)} (h : x = none) : LiveAns x (.returned (.tuple #[.agg #[.int .i64 0, .int .i64 0, .bool false], .int .i64 0, .bool false])) := by subst h; rfl
theorem liveAns_some {x : Option (LiveV × Nat)} {t : LiveV} {q : Nat} (h : x = some (t, q)) : LiveAns x (.returned (.tuple #[.agg #[.int .i64 t.tx, .int .i64 t.last, .bool t.aborts], .int .i64 (q : Nat), .bool true])) := by subst h; rfl
theorem three_set {w : World} {C D : Nat} {tC tD : TypeId} {u v f : Int} {b : Bool} (hC : Box w C [.int .i64 u, .int .i64 v, .bool b] tC) (hD : Box w D [.int .i64 f] tD) (hne : ¬ (C = D)) (l : List Int) (hl : l.length ≤ 3) :
    ∃ x y z : Int, Box (setAll w ([(C, 0), (C, 1), (D, 0)].take l.length) l) C [.int .i64 x, .int .i64 y, .bool b] tC ∧ Box (setAll w ([(C, 0), (C, 1), (D, 0)].take l.length) l) D [.int .i64 z] tD := by
  have hne' : ¬ (D = C) := fun e => hne e.symm
  match l, hl with
  | [], _ => exact ⟨u, v, f, hC, hD⟩
  | [a], _ => exact ⟨a, v, f, hC.set 0 (.int .i64 a), hD.other hne'⟩
  | [a, c], _ => exact ⟨a, c, f, (hC.set 0 (.int .i64 a)).set 1 (.int .i64 c), (hD.other hne').other hne'⟩
  | [a, c, g], _ => exact ⟨a, c, g, ((hC.set 0 (.int .i64 a)).set 1 (.int .i64 c)).other hne, ((hD.other hne').other hne').set 0 (.int .i64 g)⟩
theorem three_all {w : World} {C D : Nat} {tC tD : TypeId} {u v f : Int} {b : Bool} (hC : Box w C [.int .i64 u, .int .i64 v, .bool b] tC) (hD : Box w D [.int .i64 f] tD) (hne : ¬ (C = D)) (x y z : Int) :
    Box (setAll w [(C, 0), (C, 1), (D, 0)] [x, y, z]) C [.int .i64 x, .int .i64 y, .bool b] tC ∧ Box (setAll w [(C, 0), (C, 1), (D, 0)] [x, y, z]) D [.int .i64 z] tD := by
  have hne' : ¬ (D = C) := fun e => hne e.symm
  exact ⟨((hC.set 0 (.int .i64 x)).set 1 (.int .i64 y)).other hne, ((hD.other hne').other hne').set 0 (.int .i64 z)⟩
theorem liveAt_no {zs : List Int} {p : Nat} (h : numsAt zs 3 p = none) : liveAt zs p = none := by unfold liveAt; rw [h]
theorem liveAt_of {zs : List Int} {p q : Nat} {a b f : Int} (h : numsAt zs 3 p = some ([a, b, f], q)) : liveAt zs p = if f = 0 then some (⟨a, b, false⟩, q) else if f = 1 then some (⟨a, b, true⟩, q) else none := by unfold liveAt; rw [h]

set_option maxHeartbeats 4000000 in
set_option maxRecDepth 100000 in
theorem readLive_any (a : Option Addr) (c : Nat) (zs : List Int) (p : Nat) (w : World) (hr : Reads w a zs) (hl : zs.length ≤ 70368744177664) (hcap : zs.length ≤ c) :
    Calls Tryz.prog 139 #[.slice a zs.length c, .int .i64 (p : Int)] w fun e w' => LiveAns (liveAt zs p) e ∧ Below w.heap.size w w' := by
  obtain ⟨W, hW, bR, bC, bD, hbW, hsW⟩ := boxes3 w [.int .i64 0, .int .i64 0, .bool false] [.int .i64 0, .int .i64 0, .bool false] [.int .i64 0] 62 62 3
  obtain ⟨W2, hW2, bP, hbW2, hsW2⟩ := boxes1 W [.pointer (some ⟨w.heap.size + 1, 0, none⟩), .pointer (some ⟨w.heap.size + 1, 1, none⟩), .pointer (some ⟨w.heap.size + 1 + 1, 0, none⟩)] 158
  have bR2 := bR.below hbW2 bR.lt
  have bC2 := bC.below hbW2 bC.lt
  have bD2 := bD.below hbW2 bD.lt
  have hltD := bD.lt
  have hltP := bP.lt
  have B2 : Below w.heap.size w W2 := hbW.trans (hbW2.mono hbW.size)
  have HNO : Hid (numsAt zs 3 p = none → liveAt zs p = none) := fun h => liveAt_no h
  have HSO : Hid (∀ x y f q, numsAt zs 3 p = some ([x, y, f], q) → liveAt zs p = if f = 0 then some (⟨x, y, false⟩, q) else if f = 1 then some (⟨x, y, true⟩, q) else none) := fun x y f q h => liveAt_of h
  have hrl : ∀ u, Within (w.heap.size + 1) (w.heap.size + 3) W2 u → Reads u a zs := fun u hu => hr.below (B2.trans (hu.below (by omega) B2.size))
  have hP3 : W.heap.size = w.heap.size + 1 + 1 + 1 := by omega
  rw [hP3] at bP hltP
  have CI := readInts_any a c zs p (w.heap.size + 1 + 1 + 1) 3 (w.heap.size + 1) (w.heap.size + 3) [(w.heap.size + 1, 0), (w.heap.size + 1, 1), (w.heap.size + 1 + 1, 0)] W2 hrl hl hcap (by simp) 158 bP (by omega) (by
    intro x hx
    simp only [List.mem_cons, List.not_mem_nil, or_false] at hx
    rcases hx with rfl | rfl | rfl
    · exact ⟨⟨by omega, by omega⟩, by rw [bC2.cell 0 _ rfl]; rfl, bC2.frozen 0⟩
    · exact ⟨⟨by omega, by omega⟩, by rw [bC2.cell 1 _ rfl]; rfl, bC2.frozen 1⟩
    · exact ⟨⟨by omega, by omega⟩, by rw [bD2.cell 0 _ rfl]; rfl, bD2.frozen 0⟩)
  have HT : Hid (∀ l : List Int, l.length ≤ 3 → _) := fun l h => three_set bC2 bD2 (by omega) l h
  have HT3 : Hid (∀ x y z : Int, _) := fun x y z => three_all bC2 bD2 (by omega) x y z
  simp only [List.length_cons, List.length_nil, Nat.zero_add, Nat.reduceAdd] at CI
  generalize liveAt zs p = X at *
  clear hP3 hsW hsW2 bC bD bC2 bD2 bR bP
  go_enter Tryz.func139, Tryz.ntmps139
  go_wp2_with fail
  rw [hW.out, hW2.out]
  clear hW hW2
  refine CI.mono ?_
  clear CI
  rintro e w3 ⟨hans, hw3⟩
  have bR3 := bR2.within hw3 (by omega)
  have B3 : Below w.heap.size w w3 := B2.trans (hw3.below (by omega) (by omega))
  have s3 := hw3.size
  cases hn : numsAt zs 3 p with
  | none =>
    have HX : Hid (X = none) := HNO.out hn
    rw [hn] at hans
    clear HT3
    obtain ⟨rfl, l, hll, hwe⟩ := hans
    obtain ⟨x, y, z, bC3, bD3⟩ := HT.out l hll
    have hwe' : w3 = setAll W2 ([(w.heap.size + 1, 0), (w.heap.size + 1, 1), (w.heap.size + 1 + 1, 0)].take l.length) l := hwe
    rw [← hwe'] at bC3 bD3
    clear hwe hwe' HNO HSO HT hn hw3
    have d0 := bD3.cell 0 _ rfl
    have c2 := bC3.cell 2 _ rfl
    have f2 := bC3.frozen 2
    obtain ⟨W4, hW4, bC4, hw4, hs4⟩ := box_set bC3 2 (.bool (z == 1))
    have d4 := (bD3.within hw4 (by omega)).cell 0 _ rfl
    simp only [List.set] at bC4
    have c24 := bC4.cell 2 _ rfl
    have bR4 := bR3.within hw4 (by omega)
    have B4 : Below w.heap.size w W4 := B3.trans (hw4.below (by omega) (by omega))
    clear bC3 bD3 bC4 bR3 hw4 bR2
    go_wp2_with fail
    rw [hW4.out]
    clear d0 c2 f2 hW4
    go_quiet (fail)
    have bRq : Box (W4.drewN nq) w.heap.size [.int .i64 0, .int .i64 0, .bool false] 62 := bR4.drewN nq
    have Bq : Below w.heap.size w (W4.drewN nq) := below_drewN B4 nq
    obtain ⟨r0, r1, r2, q0, q1, q2⟩ := bRq.three
    generalize W4.drewN nq = W5 at *
    obtain ⟨WF, hWF, bF, hwF, hsF⟩ := box3_fill bRq (.int .i64 0) (.int .i64 0) (.bool false)
    have HB : Hid (Below w.heap.size w WF) := Bq.trans (hwF.below (Nat.le_refl _) Bq.size)
    obtain ⟨g0, g1, g2, _⟩ := bF.three
    clear hwF
    go_wp2_with fail
    rw [hWF.out]
    exact bodyPost_ret (v := .tuple #[.agg #[.int .i64 0, .int .i64 0, .bool false], .int .i64 0, .bool false]) (by simp [results, Tryz.results139, go_sem, g0, g1, g2]) rfl ⟨liveAns_none HX.out, HB.out⟩
  | some g =>
    obtain ⟨l, q⟩ := g
    rw [hn] at hans
    obtain ⟨rfl, hwe, hll⟩ := hans
    have hll' : l.length = 3 := hll
    match l, hll' with
    | [x, y, f], _ =>
    have HX : Hid (X = _) := HSO.out x y f q hn
    obtain ⟨bC3, bD3⟩ := HT3.out x y f
    have hwe' : w3 = setAll W2 [(w.heap.size + 1, 0), (w.heap.size + 1, 1), (w.heap.size + 1 + 1, 0)] [x, y, f] := hwe
    rw [← hwe'] at bC3 bD3
    clear hwe hwe' HNO HSO HT HT3 hn hw3 hll
    by_cases h0 : f = 0
    case pos =>
      subst h0
      replace HX : Hid (X = some (⟨x, y, false⟩, q)) := by rw [Hid, HX.out]; simp
      have d0 := bD3.cell 0 _ rfl
      have c2 := bC3.cell 2 _ rfl
      have f2 := bC3.frozen 2
      obtain ⟨W4, hW4, bC4, hw4, hs4⟩ := box_set bC3 2 (.bool false)
      have d4 := (bD3.within hw4 (by omega)).cell 0 _ rfl
      simp only [List.set] at bC4
      obtain ⟨c04, c14, c24, _⟩ := bC4.three
      have bR4 := bR3.within hw4 (by omega)
      have B4 : Below w.heap.size w W4 := B3.trans (hw4.below (by omega) (by omega))
      have HBC : Hid (Box W4 (w.heap.size + 1) _ _) := bC4
      clear bC3 bD3 bC4 bR3 hw4 bR2
      go_wp2_with fail
      rw [hW4.out]
      clear d0 c2 f2 hW4
      go_quiet ((go_at_call 35; exact Calls.quiet_of_same (flagInt_any _ _)))
      have bRq : Box (W4.drewN nq) w.heap.size [.int .i64 0, .int .i64 0, .bool false] 62 := bR4.drewN nq
      have bCq := HBC.out.drewN nq
      have Bq : Below w.heap.size w (W4.drewN nq) := below_drewN B4 nq
      clear HBC d4 c04 c14 c24 bR4 B4
      obtain ⟨r0, r1, r2, q0, q1, q2⟩ := bRq.three
      obtain ⟨k0, k1, k2, _⟩ := bCq.three
      generalize W4.drewN nq = W5 at *
      obtain ⟨WF, hWF, bF, hwF, hsF⟩ := box3_fill bRq (.int .i64 x) (.int .i64 y) (.bool false)
      have HB : Hid (Below w.heap.size w WF) := Bq.trans (hwF.below (Nat.le_refl _) Bq.size)
      obtain ⟨g0, g1, g2, _⟩ := bF.three
      clear hwF bCq
      go_wp2_with fail
      rw [hWF.out]
      exact bodyPost_ret (v := .tuple #[.agg #[.int .i64 x, .int .i64 y, .bool false], .int .i64 (q : Nat), .bool true]) (by simp [results, Tryz.results139, go_sem, g0, g1, g2]) rfl ⟨liveAns_some (t := ⟨x, y, false⟩) HX.out, HB.out⟩
    case neg =>
    by_cases h1 : f = 1
    case pos =>
      subst h1
      replace HX : Hid (X = some (⟨x, y, true⟩, q)) := by rw [Hid, HX.out]; simp
      have d0 := bD3.cell 0 _ rfl
      have c2 := bC3.cell 2 _ rfl
      have f2 := bC3.frozen 2
      obtain ⟨W4, hW4, bC4, hw4, hs4⟩ := box_set bC3 2 (.bool true)
      have d4 := (bD3.within hw4 (by omega)).cell 0 _ rfl
      simp only [List.set] at bC4
      obtain ⟨c04, c14, c24, _⟩ := bC4.three
      have bR4 := bR3.within hw4 (by omega)
      have B4 : Below w.heap.size w W4 := B3.trans (hw4.below (by omega) (by omega))
      have HBC : Hid (Box W4 (w.heap.size + 1) _ _) := bC4
      clear bC3 bD3 bC4 bR3 hw4 bR2
      go_wp2_with fail
      rw [hW4.out]
      clear d0 c2 f2 hW4
      go_quiet ((go_at_call 35; exact Calls.quiet_of_same (flagInt_any _ _)))
      have bRq : Box (W4.drewN nq) w.heap.size [.int .i64 0, .int .i64 0, .bool false] 62 := bR4.drewN nq
      have bCq := HBC.out.drewN nq
      have Bq : Below w.heap.size w (W4.drewN nq) := below_drewN B4 nq
      clear HBC d4 c04 c14 c24 bR4 B4
      obtain ⟨r0, r1, r2, q0, q1, q2⟩ := bRq.three
      obtain ⟨k0, k1, k2, _⟩ := bCq.three
      generalize W4.drewN nq = W5 at *
      obtain ⟨WF, hWF, bF, hwF, hsF⟩ := box3_fill bRq (.int .i64 x) (.int .i64 y) (.bool true)
      have HB : Hid (Below w.heap.size w WF) := Bq.trans (hwF.below (Nat.le_refl _) Bq.size)
      obtain ⟨g0, g1, g2, _⟩ := bF.three
      clear hwF bCq
      go_wp2_with fail
      rw [hWF.out]
      exact bodyPost_ret (v := .tuple #[.agg #[.int .i64 x, .int .i64 y, .bool true], .int .i64 (q : Nat), .bool true]) (by simp [results, Tryz.results139, go_sem, g0, g1, g2]) rfl ⟨liveAns_some (t := ⟨x, y, true⟩) HX.out, HB.out⟩
    case neg =>
      replace HX : Hid (X = none) := by rw [Hid, HX.out]; simp [h0, h1]
      have e1 : (f == 1) = false := by simpa using h1
      have e0 : (f == 0) = false := by simpa using h0
      have d0 := bD3.cell 0 _ rfl
      have c2 := bC3.cell 2 _ rfl
      have f2 := bC3.frozen 2
      obtain ⟨W4, hW4, bC4, hw4, hs4⟩ := box_set bC3 2 (.bool false)
      have d4 := (bD3.within hw4 (by omega)).cell 0 _ rfl
      simp only [List.set] at bC4
      obtain ⟨c04, c14, c24, _⟩ := bC4.three
      have bR4 := bR3.within hw4 (by omega)
      have B4 : Below w.heap.size w W4 := B3.trans (hw4.below (by omega) (by omega))
      have HBC : Hid (Box W4 (w.heap.size + 1) _ _) := bC4
      clear bC3 bD3 bC4 bR3 hw4 bR2
      go_wp2_with fail
      rw [hW4.out]
      clear d0 c2 f2 hW4
      go_quiet ((go_at_call 35; exact Calls.quiet_of_same (flagInt_any _ _)))
      have bRq : Box (W4.drewN nq) w.heap.size [.int .i64 0, .int .i64 0, .bool false] 62 := bR4.drewN nq
      have bCq := HBC.out.drewN nq
      have Bq : Below w.heap.size w (W4.drewN nq) := below_drewN B4 nq
      clear HBC d4 c04 c14 c24 bR4 B4
      obtain ⟨r0, r1, r2, q0, q1, q2⟩ := bRq.three
      obtain ⟨k0, k1, k2, _⟩ := bCq.three
      generalize W4.drewN nq = W5 at *
      obtain ⟨WF, hWF, bF, hwF, hsF⟩ := box3_fill bRq (.int .i64 0) (.int .i64 0) (.bool false)
      have HB : Hid (Below w.heap.size w WF) := Bq.trans (hwF.below (Nat.le_refl _) Bq.size)
      obtain ⟨g0, g1, g2, _⟩ := bF.three
      clear hwF bCq
      go_wp2_with fail
      rw [hWF.out]
      exact bodyPost_ret (v := .tuple #[.agg #[.int .i64 0, .int .i64 0, .bool false], .int .i64 0, .bool false]) (by simp [results, Tryz.results139, go_sem, g0, g1, g2]) rfl ⟨liveAns_none HX.out, HB.out⟩
end Go.Proofs.YtickiokdcbeefaaGreatDoor

/- The walk of impl.readLives. -/
namespace Go.Proofs.YtickiokdcbeefaaGreatDoor
open Go.RowKit

def onToL (L : List LiveV) : Option (List LiveV × Nat) → Option (List LiveV × Nat)
  | some (l, q) => some (L ++ l, q)
  | none => none
theorem onToL_nil (x : Option (List LiveV × Nat)) : onToL [] x = x := by cases x <;> rfl
theorem onToL_step (zs : List Int) (L : List LiveV) (n p q : Nat) (t : LiveV) (h : liveAt zs p = some (t, q)) : onToL L (livesAt zs (n + 1) p) = onToL (L ++ [t]) (livesAt zs n q) := by
  rw [livesAt, h]
  simp only
  cases livesAt zs n q with
  | none => rfl
  | some y => simp [onToL]
theorem onToL_stop (zs : List Int) (L : List LiveV) (n p : Nat) (h : liveAt zs p = none) : onToL L (livesAt zs (n + 1) p) = none := by rw [livesAt, h]; rfl
def rowLs (L : List LiveV) (n : Nat) : List LiveV := L ++ List.replicate (n - L.length) zeroL
theorem rowLs_len (L : List LiveV) (n : Nat) (h : L.length ≤ n) : (rowLs L n).length = n := by simp [rowLs]; omega
theorem rowLs_nil (n : Nat) : rowLs [] n = List.replicate n zeroL := by simp [rowLs]
theorem rowLs_all (L : List LiveV) : rowLs L L.length = L := by simp [rowLs]
theorem rowLs_set (L : List LiveV) (n : Nat) (t : LiveV) (h : L.length < n) : (rowLs L n).set L.length t = rowLs (L ++ [t]) n := by
  unfold rowLs
  rw [List.set_append_right _ _ (Nat.le_refl _), Nat.sub_self, show n - L.length = (n - (L ++ [t]).length) + 1 by simp; omega, List.replicate_succ, List.set_cons_zero]
  simp
def LivesAns (w' : World) (lo : Nat) (x : Option (List LiveV × Nat)) (e : Ending) : Prop := match x with
  | some (l, q) => ∃ a' c', e = .returned (.tuple #[.slice a' l.length c', .int .i64 (q : Nat), .bool true]) ∧ OwnL w' lo w'.heap.size a' c' l
  | none => e = .returned (.tuple #[.slice none 0 0, .int .i64 0, .bool false])
theorem livesAns_none {w' : World} {lo : Nat} {x : Option (List LiveV × Nat)} (h : x = none) : LivesAns w' lo x (.returned (.tuple #[.slice none 0 0, .int .i64 0, .bool false])) := by subst h; rfl
theorem livesAns_some {w' : World} {lo : Nat} {x : Option (List LiveV × Nat)} {l : List LiveV} {q n : Nat} (h : x = some (l, q)) (a' : Option Addr) (c' : Nat) (hn : n = l.length) (ho : OwnL w' lo w'.heap.size a' c' l) : LivesAns w' lo x (.returned (.tuple #[.slice a' n c', .int .i64 (q : Nat), .bool true])) := by subst h; subst hn; exact ⟨a', c', rfl, ho⟩
theorem countAt_none {zs : List Int} {p : Nat} (h : getAt zs (p : Int) = none) : countAt zs p = none := by unfold countAt; rw [h]
theorem countAt_bad {zs : List Int} {p q : Nat} {n : Int} (h : getAt zs (p : Int) = some (n, q)) (hn : n < 0 ∨ 20 < n) : countAt zs p = none := by unfold countAt; rw [h]; simp only; rw [if_neg (by omega)]
theorem countAt_good {zs : List Int} {p q m : Nat} (h : getAt zs (p : Int) = some ((m : Int), q)) (hm : m ≤ 20) : countAt zs p = livesAt zs m q := by unfold countAt; rw [h]; simp only; rw [if_pos (by omega), Int.toNat_natCast]

set_option maxHeartbeats 4000000 in
set_option maxRecDepth 100000 in
theorem readLives_any (a : Option Addr) (c : Nat) (zs : List Int) (p : Nat) (w : World) (hr : Reads w a zs) (hl : zs.length ≤ 70368744177664) (hcap : zs.length ≤ c) :
    Calls Tryz.prog 123 #[.slice a zs.length c, .int .i64 (p : Int)] w fun e w' => LivesAns w' w.heap.size (countAt zs p) e ∧ Below w.heap.size w w' := by
  obtain ⟨i0, hi, hz0, hz1, hz2⟩ := info_parts Tryz.infoLive
  have C := implGetInt_any a c zs (p : Int) w hr hl hcap
  cases hg : getAt zs (p : Int) with
  | none =>
    have HX : Hid (_ = _) := countAt_none hg
    generalize countAt zs p = X at *
    rw [hg] at C
    simp only [triple] at C
    go_enter Tryz.func123, Tryz.ntmps123
    go_wp2_with fail
    refine C.mono ?_
    rintro e u ⟨rfl, hu⟩
    rw [hu]
    clear hu u
    go_wp2
    go_ret3
    exact ⟨livesAns_none HX.out, Below.refl _ _⟩
  | some g =>
    obtain ⟨n, q⟩ := g
    rw [hg] at C
    simp only [triple] at C
    by_cases hneg : n < 0
    · have HX : Hid (_ = _) := countAt_bad hg (.inl hneg)
      generalize countAt zs p = X at *
      go_enter Tryz.func123, Tryz.ntmps123
      go_wp2_with fail
      refine C.mono ?_
      rintro e u ⟨rfl, hu⟩
      rw [hu]
      clear hu u
      go_wp2
      go_ret3
      exact ⟨livesAns_none HX.out, Below.refl _ _⟩
    by_cases hbig : 20 < n
    · have HX : Hid (_ = _) := countAt_bad hg (.inr hbig)
      generalize countAt zs p = X at *
      go_enter Tryz.func123, Tryz.ntmps123
      go_wp2_with fail
      refine C.mono ?_
      rintro e u ⟨rfl, hu⟩
      rw [hu]
      clear hu u
      go_wp2
      go_ret3
      exact ⟨livesAns_none HX.out, Below.refl _ _⟩
    obtain ⟨m, rfl⟩ : ∃ m : Nat, n = (m : Int) := ⟨n.toNat, by omega⟩
    have hm : m ≤ 20 := by omega
    have HX : Hid (_ = _) := countAt_good hg hm
    generalize countAt zs p = X at *
    clear hg
    go_enter Tryz.func123, Tryz.ntmps123
    go_wp2_with fail
    refine C.mono ?_
    clear C
    rintro e u ⟨rfl, hu⟩
    rw [hu]
    clear hu u
    go_wp2_with (at_make; refine wpList_make_full _ rfl _ _ 40 rfl w.heap.size 62 i0 (.agg #[.int .i64 0, .int .i64 0, .bool false]) 3 Tryz.underlying40 hi hz0 hz1 _ _ _ _ m rfl rfl rfl rfl (by rw [hz2]; omega) (by simp [maxLen]; omega) (Nat.le_refl _) ?_)
    intro w0 hown0 hgrow0
    have hown1 : w0.ownsRow w.heap.size 62 3 (.slice (some ⟨w.heap.size, 0, none⟩) m m) m (cellsL (rowLs [] m)) := by
      rw [rowLs_nil, ← made_live]
      exact hown0
    have hb0 : Below w.heap.size w w0 := (Below.refl _ _).grown hgrow0 (Nat.le_refl _) (fun k h => by cases h)
    clear hown0 hgrow0
    go_wp2
    go_loopw [1, 32] (fun t i wr => ∃ (k q2 : Nat) (L : List LiveV), k ≤ m ∧ i = .int .i64 k ∧ t = .int .i64 q2 ∧ Hid (L.length = k ∧ X = onToL L (livesAt zs (m - k) q2)) ∧ wr.ownsRow w.heap.size 62 3 (.slice (some ⟨w.heap.size, 0, none⟩) m m) m (cellsL (rowLs L m)) ∧ Below w.heap.size w wr)
      (fun _ i _ => m - (intOf i).toNat)
    case atStart => exact ⟨0, q, [], Nat.zero_le _, rfl, rfl, ⟨rfl, by rw [onToL_nil]; exact HX.out⟩, hown1, hb0⟩
    case round =>
      obtain ⟨k, q2, L, hk, rfl, rfl, hL, hown, hnx⟩ := hrel
      clear hown1 hb0
      by_cases hlt : k < m
      · have hp : (rowLs L m).length = m := rowLs_len L m (by rw [hL.out.1]; exact hk)
        have C := readLive_any a c zs q2 wr (hr.below hnx) hl hcap
        have HRK : Hid (m - k = (m - (k + 1)) + 1) := by rw [Hid]; omega
        have HSET : Hid (∀ t, (rowLs L m).set k t = rowLs (L ++ [t]) m) := fun t => by have := rowLs_set L m t (by rw [hL.out.1]; exact hlt); rw [hL.out.1] at this; exact this
        have hi0 : (0 : Int) ≤ (k : Int) := by omega
        have hi4 : (k : Int) < (m : Int) := by omega
        cases hlv : liveAt zs q2 with
        | none =>
          rw [hlv] at C
          simp only [LiveAns, LiveV.cells, zeroL] at C
          have HE : Hid (X = none) := by rw [Hid, hL.out.2, HRK.out]; exact onToL_stop zs L _ q2 hlv
          go_wp2_with fail
          refine C.mono ?_
          clear C
          rintro e w1 ⟨rfl, hb1⟩
          have hownA := ownsRow_block hown (fun j hj => hb1.block j (hown.lt j hj).2)
          obtain ⟨x0, x1, x2, hfz⟩ := row_live hownA hp k hlt
          have f0 := hfz (k * 3)
          have f1 := hfz (k * 3 + 1)
          have f2 := hfz (k * 3 + 2)
          obtain ⟨W2, hW2, ho2, hg2⟩ := row_store hownA hp k hlt zeroL
          have hB2 : Below w.heap.size w W2 := (hnx.trans (hb1.mono hnx.size)).grown hg2 (by have := hnx.size; have := hb1.size; omega) (fun j hj => by cases hj; omega)
          simp only [zeroL] at hW2
          clear ho2 hg2 hfz hownA hown hb1 hnx HSET
          generalize (rowLs L m).getD k zeroL = old at *
          go_wp2_with fail
          rw [hW2.out]
          go_wp2
          go_ret3
          exact ⟨livesAns_none HE.out, hB2⟩
        | some g =>
          obtain ⟨z, q3⟩ := g
          rw [hlv] at C
          simp only [LiveAns, LiveV.cells] at C
          have HE : Hid (X = onToL (L ++ [z]) (livesAt zs (m - (k + 1)) q3)) := by rw [Hid, hL.out.2, HRK.out]; exact onToL_step zs L _ q2 q3 z hlv
          go_wp2_with fail
          refine C.mono ?_
          clear C
          rintro e w1 ⟨rfl, hb1⟩
          have hownA := ownsRow_block hown (fun j hj => hb1.block j (hown.lt j hj).2)
          obtain ⟨x0, x1, x2, hfz⟩ := row_live hownA hp k hlt
          have f0 := hfz (k * 3)
          have f1 := hfz (k * 3 + 1)
          have f2 := hfz (k * 3 + 2)
          obtain ⟨W2, hW2, ho2, hg2⟩ := row_store hownA hp k hlt z
          rw [HSET.out z] at ho2
          have hB2 : Below w.heap.size w W2 := (hnx.trans (hb1.mono hnx.size)).grown hg2 (by have := hnx.size; have := hb1.size; omega) (fun j hj => by cases hj; omega)
          have HH : Hid (_ ∧ _) := ⟨ho2, hB2⟩
          have HLL : Hid ((L ++ [z]).length = k + 1) := by simp [Hid, hL.out.1]
          clear ho2 hB2 hg2 hfz hownA hown hb1 hnx HSET
          generalize (rowLs L m).getD k zeroL = old at *
          go_wp2_with fail
          rw [hW2.out]
          go_roundw
          case rel => exact ⟨k + 1, q3, L ++ [z], by omega, by go_num, rfl, ⟨HLL.out, HE.out⟩, HH.out.1, HH.out.2⟩
          case measure => simp [intOf]; omega
      · obtain rfl : k = m := by omega
        have HO : Hid (wr.ownsRow w.heap.size 62 3 (.slice (some ⟨w.heap.size, 0, none⟩) L.length k) L.length (cellsL L)) := by
          have e := hL.out.1
          rw [← e, rowLs_all] at hown
          rw [Hid, ← e]
          exact hown
        have HE : Hid (X = some (L, q2)) := by rw [Hid, hL.out.2, Nat.sub_self]; simp [livesAt, onToL]
        have HKL : Hid (k = L.length) := hL.out.1.symm
        go_wp2
        go_ret3
        exact ⟨livesAns_some HE.out _ _ HKL.out ⟨HO.out, Nat.le_refl _, fun j hj => (HO.out.lt j hj).2⟩, hnx⟩
end Go.Proofs.YtickiokdcbeefaaGreatDoor

/- The walk of impl.readParts. -/
namespace Go.Proofs.YtickiokdcbeefaaGreatDoor
open Go.RowKit

/-- What readParts answers. -/
def PartsAns (w' : World) (lo : Nat) (x : Option (List Int × Nat)) (e : Ending) : Prop := match x with
  | some (l, q) => ∃ a' c', e = .returned (.tuple #[.slice a' l.length c', .int .i64 (q : Nat), .nilIface]) ∧ OwnI w' lo w'.heap.size a' c' l
  | none => ∃ s, e = .returned (.tuple #[.slice none 0 0, .int .i64 0, .iface 164 (.agg #[.string s])])
theorem partsAns_none {w' : World} {lo : Nat} {x : Option (List Int × Nat)} (h : x = none) (s : ByteArray) : PartsAns w' lo x (.returned (.tuple #[.slice none 0 0, .int .i64 0, .iface 164 (.agg #[.string s])])) := by
  subst h; exact ⟨s, rfl⟩
theorem partsAns_some {w' : World} {lo : Nat} {x : Option (List Int × Nat)} {l : List Int} {q : Nat} (h : x = some (l, q)) (a' : Option Addr) (c' n : Nat) (hn : n = l.length) (ho : OwnI w' lo w'.heap.size a' c' l) : PartsAns w' lo x (.returned (.tuple #[.slice a' n c', .int .i64 (q : Nat), .nilIface])) := by
  subst h; subst hn; exact ⟨a', c', rfl, ho⟩

theorem partsAt_none {zs : List Int} {p : Nat} (h : getAt zs (p : Int) = none) : partsAt zs p = none := by unfold partsAt; rw [h]
theorem partsAt_bad {zs : List Int} {p q : Nat} {n : Int} (h : getAt zs (p : Int) = some (n, q)) (hn : n < 0 ∨ 5 < n) : partsAt zs p = none := by
  unfold partsAt; rw [h]; simp only; rw [if_neg (by omega)]
theorem partsAt_good {zs : List Int} {p q m : Nat} (h : getAt zs (p : Int) = some ((m : Int), q)) (hm : m ≤ 5) : partsAt zs p = numsAt zs m q := by
  unfold partsAt; rw [h]; simp only; rw [if_pos (by omega), Int.toNat_natCast]

set_option maxHeartbeats 2000000 in
set_option maxRecDepth 100000 in
theorem readParts_any (a : Option Addr) (c : Nat) (zs : List Int) (p : Nat) (w : World) (hr : Reads w a zs) (hl : zs.length ≤ 70368744177664) (hcap : zs.length ≤ c) :
    Calls Tryz.prog 151 #[.slice a zs.length c, .int .i64 p] w fun e w' => PartsAns w' w.heap.size (partsAt zs p) e ∧ Below w.heap.size w w' := by
  cases hg : getAt zs (p : Int) with
  | none =>
    have HX : Hid (_ = _) := partsAt_none hg
    have HG : Hid (_ = _) := hg
    clear hg
    generalize partsAt zs p = X at *
    go_enter Tryz.func151, Tryz.ntmps151
    go_wp2_with fail
    refine (implGetInt_any a c zs p w hr hl hcap).mono ?_
    rintro e w' ⟨rfl, rfl⟩
    rw [HG.out]
    simp only [triple]
    go_wp2
    go_ret3
    exact ⟨partsAns_none HX.out _, Below.refl _ _⟩
  | some t =>
    obtain ⟨n, q⟩ := t
    by_cases hn0 : n < 0
    · have HX : Hid (_ = _) := partsAt_bad hg (.inl hn0)
      have HG : Hid (_ = _) := hg
      clear hg
      generalize partsAt zs p = X at *
      go_enter Tryz.func151, Tryz.ntmps151
      go_wp2_with fail
      refine (implGetInt_any a c zs p w hr hl hcap).mono ?_
      rintro e w' ⟨rfl, rfl⟩
      rw [HG.out]
      simp only [triple]
      go_wp2
      go_ret3
      exact ⟨partsAns_none HX.out _, Below.refl _ _⟩
    by_cases hn5 : 5 < n
    · have HX : Hid (_ = _) := partsAt_bad hg (.inr hn5)
      have HG : Hid (_ = _) := hg
      clear hg
      generalize partsAt zs p = X at *
      go_enter Tryz.func151, Tryz.ntmps151
      go_wp2_with fail
      refine (implGetInt_any a c zs p w hr hl hcap).mono ?_
      rintro e w' ⟨rfl, rfl⟩
      rw [HG.out]
      simp only [triple]
      go_wp2
      go_ret3
      exact ⟨partsAns_none HX.out _, Below.refl _ _⟩
    obtain ⟨m, rfl⟩ : ∃ m : Nat, n = (m : Int) := ⟨n.toNat, by omega⟩
    have hm5 : m ≤ 5 := by omega
    have HX : Hid (onTo [] (numsAt zs (m - 0) q) = partsAt zs p) := by rw [Hid, partsAt_good hg hm5, onTo_nil]; rfl
    have HG : Hid (_ = _) := hg
    clear hg
    generalize partsAt zs p = X at *
    obtain ⟨i0, hi, hz0, hz1, hz2⟩ := info_parts Tryz.infoInt
    go_enter Tryz.func151, Tryz.ntmps151
    go_wp2_with fail
    refine (implGetInt_any a c zs p w hr hl hcap).mono ?_
    rintro e w' ⟨rfl, rfl⟩
    rw [HG.out]
    simp only [triple]
    go_wp2_with (at_make; refine wpList_make_full _ rfl _ _ 35 rfl w'.heap.size 3 i0 (.int .i64 0) 1 Tryz.underlying35 hi hz0 hz1 _ _ _ _ m rfl rfl rfl rfl (by rw [hz2]; omega) (by simp [maxLen]; omega) (Nat.le_refl _) ?_)
    intro w0 hown0 hgrow0
    have hown1 : w0.ownsRow w'.heap.size 3 1 (.slice (some ⟨w'.heap.size, 0, none⟩) m m) m ((rowI [] m).map (Value.int .i64)) := by
      rw [rowI_nil, List.map_replicate]
      simpa [Value.cells, toList_madeCells_one] using hown0
    have hb0 : Below w'.heap.size w' w0 := (Below.refl _ _).grown hgrow0 (Nat.le_refl _) (fun k h => by cases h)
    clear hown0 hgrow0
    go_wp2
    go_loopw [1, 34] (fun at_ i wr => ∃ (L : List Int) (k r : Nat), Hid (L.length = k) ∧ k ≤ m ∧ i = .int .i64 k ∧ at_ = .int .i64 r ∧ Hid (onTo L (numsAt zs (m - k) r) = X) ∧ Hid (wr.ownsRow w'.heap.size 3 1 (.slice (some ⟨w'.heap.size, 0, none⟩) m m) m ((rowI L m).map (Value.int .i64))) ∧ Below w'.heap.size w' wr)
      (fun _ i _ => m - (intOf i).toNat)
    case atStart => exact ⟨[], 0, q, rfl, Nat.zero_le _, rfl, rfl, HX, hown1, hb0⟩
    case round =>
      obtain ⟨L, k, r, hL, hk, rfl, rfl, hX, hownH, hnx⟩ := hrel
      clear hown1 hb0 HX
      by_cases hlt : k < m
      · have hown := hownH.out
        have hfz := hown.frozenAt k
        obtain ⟨u, hct⟩ := own_cell hown k hlt
        cases hg : getAt zs (r : Int) with
        | none =>
          have HG2 : Hid (_ = _) := hg
          have HXN : Hid (X = none) := by
            have e : m - k = (m - k - 1) + 1 := by omega
            rw [Hid, ← hX.out, e, onTo_stop zs L _ r hg]
          have hbS : Below w'.heap.size w' (wr.setCell ⟨w'.heap.size, k, none⟩ (.int .i64 0)) := hnx.setCell (Nat.le_refl _) _
          have HBS : Hid (_) := hbS
          clear hg hown hbS
          go_wp2_with fail
          refine (implGetInt_any a c zs r wr (hr.below hnx) hl hcap).mono ?_
          rintro e w2 ⟨rfl, rfl⟩
          rw [HG2.out]
          simp only [triple]
          go_wp2
          go_ret3
          exact ⟨partsAns_none HXN.out _, HBS.out⟩
        | some t =>
          obtain ⟨z, r2⟩ := t
          have HG2 : Hid (_ = _) := hg
          have HXS : Hid (onTo (L ++ [z]) (numsAt zs (m - (k + 1)) r2) = X) := by
            have e : m - k = (m - (k + 1)) + 1 := by omega
            rw [Hid, ← hX.out, e, onTo_step zs L _ r r2 z hg]
          have HLS : Hid ((L ++ [z]).length = k + 1) := by rw [Hid, List.length_append, hL.out]; rfl
          have HS : Hid ((wr.setCell ⟨w'.heap.size, k, none⟩ (.int .i64 z)).ownsRow w'.heap.size 3 1 (.slice (some ⟨w'.heap.size, 0, none⟩) m m) m ((rowI (L ++ [z]) m).map (Value.int .i64))) := by
            have h1 := (hown.stored k (.int .i64 z)).1
            have h2 := rowI_set_map L m z (by rw [hL.out]; exact hlt)
            rw [hL.out] at h2
            rw [h2] at h1
            exact h1
          have HN : Hid (Below w'.heap.size w' (wr.setCell ⟨w'.heap.size, k, none⟩ (.int .i64 z))) := hnx.setCell (Nat.le_refl _) _
          clear hg hown
          go_wp2_with fail
          refine (implGetInt_any a c zs r wr (hr.below hnx) hl hcap).mono ?_
          rintro e w2 ⟨rfl, rfl⟩
          rw [HG2.out]
          simp only [triple]
          go_wp2
          go_roundw
          case rel => exact ⟨L ++ [z], k + 1, r2, HLS, by omega, by go_num, rfl, HXS, HS, HN.out⟩
          case measure => simp [intOf]; omega
      · obtain rfl : k = m := by omega
        have HXS : Hid (X = some (L, r)) := by rw [Hid, ← hX.out, Nat.sub_self, numsAt]; simp [onTo]
        have HO : Hid (OwnI wr w'.heap.size wr.heap.size (some ⟨w'.heap.size, 0, none⟩) k L) := by
          have h1 := hownH.out
          have e : rowI L k = L := by rw [← hL.out]; exact rowI_all L
          rw [e] at h1
          refine ⟨?_, Nat.le_refl _, ?_⟩
          · rw [hL.out]; exact h1
          · intro j hj; rw [hL.out] at hj; exact (h1.lt j hj).2
        go_wp2
        go_ret3
        exact ⟨partsAns_some HXS.out _ _ _ hL.out.symm HO.out, hnx⟩
end Go.Proofs.YtickiokdcbeefaaGreatDoor

/- The walk of impl.foundObj. -/
namespace Go.Proofs.YtickiokdcbeefaaGreatDoor
open Go.RowKit

set_option maxHeartbeats 1000000 in
set_option maxRecDepth 100000 in
theorem foundObj_ok (k : Int) (aI : Option Addr) (nI cI : Nat) (aR : Option Addr) (nR cR : Nat) (w : World) : Calls Tryz.prog 146 #[.agg #[.int .i64 k, .slice aI nI cI, .slice aR nR cR], .nilIface] w fun e w' => e = .returned (.tuple #[.agg #[.int .i64 k, .slice aI nI cI, .slice aR nR cR], .bool true]) ∧ Below w.heap.size w w' := by
  obtain ⟨W, hW, b0, b1, hbW, hsW⟩ := boxes2 w [.int .i64 k, .slice aI nI cI, .slice aR nR cR] [.int .i64 0, .slice none 0 0, .slice none 0 0] 37 37
  go_enter Tryz.func146, Tryz.ntmps146
  go_wp2_with fail
  rw [hW.out]
  refine (isNo_nil W).mono ?_
  rintro e w1 ⟨rfl, hb1⟩
  have B1 : Below w.heap.size w w1 := hbW.trans (hb1.mono hbW.size)
  obtain ⟨x0, x1, x2, _, _, _⟩ := (b0.below hb1 b0.lt).three
  have bR := b1.below hb1 b1.lt
  obtain ⟨y0, y1, y2, f0, f1, f2⟩ := bR.three
  obtain ⟨WF, hWF, bF, hwF, _⟩ := box3_fill bR (.int .i64 k) (.slice aI nI cI) (.slice aR nR cR)
  have HB : Hid (Below w.heap.size w WF) := B1.trans (hwF.below (by omega) (by have := hb1.size; omega))
  clear hwF hb1 B1
  go_wp2
  rw [hWF.out]
  obtain ⟨q0, q1, q2, _, _, _⟩ := bF.three
  exact bodyPost_ret (v := .tuple #[.agg #[.int .i64 k, .slice aI nI cI, .slice aR nR cR], .bool true]) (by simp [results, Tryz.results146, go_sem, q0, q1, q2]) rfl ⟨rfl, HB.out⟩

set_option maxHeartbeats 1000000 in
set_option maxRecDepth 100000 in
theorem foundObj_no (k : Int) (aI : Option Addr) (nI cI : Nat) (aR : Option Addr) (nR cR : Nat) (s : ByteArray) (w : World) (hg : ErrT w) : Calls Tryz.prog 146 #[.agg #[.int .i64 k, .slice aI nI cI, .slice aR nR cR], .iface 164 (.agg #[.string s])] w fun e w' => e = .returned (.tuple #[.agg #[.int .i64 0, .slice none 0 0, .slice none 0 0], .bool false]) ∧ Below w.heap.size w w' := by
  obtain ⟨W, hW, b0, b1, hbW, hsW⟩ := boxes2 w [.int .i64 k, .slice aI nI cI, .slice aR nR cR] [.int .i64 0, .slice none 0 0, .slice none 0 0] 37 37
  go_enter Tryz.func146, Tryz.ntmps146
  go_wp2_with fail
  rw [hW.out]
  refine (isNo_hit s W (hg.keep hbW)).mono ?_
  rintro e w1 ⟨rfl, hb1⟩
  have B1 : Below w.heap.size w w1 := hbW.trans (hb1.mono hbW.size)
  have bR := b1.below hb1 b1.lt
  obtain ⟨y0, y1, y2, f0, f1, f2⟩ := bR.three
  obtain ⟨WF, hWF, bF, hwF, _⟩ := box3_fill bR (.int .i64 0) (.slice none 0 0) (.slice none 0 0)
  have HB : Hid (Below w.heap.size w WF) := B1.trans (hwF.below (by omega) (by have := hb1.size; omega))
  clear hwF hb1 B1
  go_wp2
  rw [hWF.out]
  obtain ⟨q0, q1, q2, _, _, _⟩ := bF.three
  exact bodyPost_ret (v := .tuple #[.agg #[.int .i64 0, .slice none 0 0, .slice none 0 0], .bool false]) (by simp [results, Tryz.results146, go_sem, q0, q1, q2]) rfl ⟨rfl, HB.out⟩
end Go.Proofs.YtickiokdcbeefaaGreatDoor
