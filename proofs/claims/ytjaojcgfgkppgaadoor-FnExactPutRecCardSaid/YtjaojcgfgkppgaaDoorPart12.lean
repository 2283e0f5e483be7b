/- Several texts in one, in their order. -/
import Derived.Test.YtjaojcgfgkppgaaDoorPart11
import Derived.Test.YtjaojcgfgkppgaaDoorPart1
import Derived.ProofKit
import Derived.OpenShut
import Derived.ChangeOld
import Derived.Test.YtjaojcgfgkppgaaDoorPart3
import Derived.ChangeArms
import Derived.Test.YtjaojcgfgkppgaaDoorPart7
import Derived.Test.YtjaojcgfgkppgaaDoorPart8
import Derived.Deep.RegionHeld3
import Derived.Test.YtjaojcgfgkppgaaDoorRows
import Derived.Test.YtjaojcgfgkppgaaDoorPart9
import Derived.LaidLaws
import Derived.LaidHandle
import Derived.Stop.Joined
import Derived.ChangeVars
/- The walk of impl.PutRec. -/
namespace Go.Proofs.YtjaojcgfgkppgaaDoor
open Go.RowKit

theorem flagInt_any (b : Bool) (w : World) : Calls Tryd.prog 31 #[.bool b] w fun e w' => e = .returned (.int .i64 (if b then 1 else 0)) ∧ w' = w := by
  cases b
  · go_enter Tryd.func31, Tryd.ntmps31
    go_wp2
    go_ret
    exact ⟨rfl, rfl⟩
  · go_enter Tryd.func31, Tryd.ntmps31
    go_wp2
    go_ret
    exact ⟨rfl, rfl⟩
theorem bodyR_parts {r : RecV} (h : okR r = true) : bodyR r = ((((headR r).flatMap putOf ++ (putOf (putObjOf r.bf.o).length ++ putObjOf r.bf.o)) ++ (putOf (putObjOf r.af.o).length ++ putObjOf r.af.o)) ++ putOf r.txs.length) ++ r.txs.flatMap putLive := by
  have d := okR_bd h
  unfold bodyR
  rw [putSlot_one d.bf, putSlot_one d.af]

set_option maxHeartbeats 4000000 in
set_option maxRecDepth 100000 in
theorem implPutRec_any (r : RecA) (w : World) (hg : ErrT w) (hr : r.reads w) (hl : r.short 1099511627776) :
    Calls Tryd.prog 9 #[.agg r.cells.toArray] w fun e w' => ∃ a' c' ys, e = .returned (.slice a' ys.length c') ∧ Hid (ys = putRecOf r.v) ∧ OwnB w' w.heap.size a' c' ys ∧ Below w.heap.size w w' := by
  obtain ⟨W, hW, b0, hbW, hsW⟩ := boxes1 w r.cells 31
  have C1 := implRecOk_any r W (hg.keep hbW) (hr.below hbW) hl
  have HPT : Hid (okR r.v = true → putRecOf r.v = _) := fun h => (putRec_ok h).trans (bodyR_parts h)
  have HPF : Hid (okR r.v = false → putRecOf r.v = []) := fun h => putRec_no h
  have HT20 : Hid (okR r.v = true → r.txs.length ≤ 20) := fun h => okR_txs h
  have HX : Hid (∀ u, Below W.heap.size W u → Box u w.heap.size r.cells 31) := fun u hu => b0.below hu b0.lt
  generalize putRecOf r.v = R at *
  simp only [RecA.cells] at *
  have HC : Hid (∀ w', Box w' w.heap.size [.int .i64 r.lsn, .int .i64 r.tx, .int .i64 r.prev, .int .i64 r.kind, .int .i64 r.oid, .bool r.bf.v.has, .int .i64 r.bf.v.o.kind, .slice r.bf.aI r.bf.v.o.ints.length r.bf.cI, .slice r.bf.aR r.bf.v.o.refs.length r.bf.cR, .bool r.af.v.has, .int .i64 r.af.v.o.kind, .slice r.af.aI r.af.v.o.ints.length r.af.cI, .slice r.af.aR r.af.v.o.refs.length r.af.cR, .int .i64 r.next, .slice r.aL r.txs.length r.cL] 31 → w'.cell? ⟨w.heap.size, 5, none⟩ = some (.bool r.bf.v.has) ∧ w'.cell? ⟨w.heap.size, 6, none⟩ = some (.int .i64 r.bf.v.o.kind) ∧ w'.cell? ⟨w.heap.size, 7, none⟩ = some (.slice r.bf.aI r.bf.v.o.ints.length r.bf.cI) ∧ w'.cell? ⟨w.heap.size, 8, none⟩ = some (.slice r.bf.aR r.bf.v.o.refs.length r.bf.cR) ∧ w'.cell? ⟨w.heap.size, 9, none⟩ = some (.bool r.af.v.has) ∧ w'.cell? ⟨w.heap.size, 10, none⟩ = some (.int .i64 r.af.v.o.kind) ∧ w'.cell? ⟨w.heap.size, 11, none⟩ = some (.slice r.af.aI r.af.v.o.ints.length r.af.cI) ∧ w'.cell? ⟨w.heap.size, 12, none⟩ = some (.slice r.af.aR r.af.v.o.refs.length r.af.cR)) := fun w' b => ⟨b.cell 5 _ rfl, b.cell 6 _ rfl, b.cell 7 _ rfl, b.cell 8 _ rfl, b.cell 9 _ rfl, b.cell 10 _ rfl, b.cell 11 _ rfl, b.cell 12 _ rfl⟩
  clear hsW
  go_enter Tryd.func9, Tryd.ntmps9
  go_wp2_with fail
  rw [hW.out]
  clear hW
  refine C1.mono ?_
  clear C1 b0
  rintro e w1 ⟨rfl, hb1⟩
  have B1 : Below w.heap.size w w1 := hbW.trans (hb1.mono hbW.size)
  cases hok : okR r.v with
  | false =>
    have HR : Hid (R = []) := HPF.out hok
    clear hok HPT HPF HT20
    go_wp2
    go_ret
    exact ⟨_, 0, [], rfl, HR.out.symm, (own_lit0 w1).base B1.size, B1.alloc B1.size _⟩
  | true =>
    have HR : Hid (R = _) := HPT.out hok
    have h20 := HT20.out hok
    clear hok HPT HPF HT20
    obtain ⟨x0, x1, x2, x3, x4, _, _, _, _, _, _, _, _, x13, _⟩ := fifteen (HX.out w1 hb1)
    go_wp2_with fail
    refine (putInts_any none 0 [] _ _ [r.lsn, r.tx, r.prev, r.kind, r.oid, r.next] _ ⟨by simp, by simp⟩ (fun _ => rfl) (readsI_lit w1 [r.lsn, r.tx, r.prev, r.kind, r.oid, r.next] _) (by simp)).mono ?_
    clear x0 x1 x2 x3 x4 x13
    rintro e w2 ⟨a2, c2, y2, rfl, hy2, ho2, hb2⟩
    have HY2 : Hid (y2 = (headR r.v).flatMap putOf) := by rw [Hid, hy2]; rfl
    have hyl2 : y2.length ≤ 390 := by rw [HY2.out]; exact flatN_len _
    have hbA : Below w1.heap.size w1 (w1.alloc (.cells #[.int .i64 r.lsn, .int .i64 r.tx, .int .i64 r.prev, .int .i64 r.kind, .int .i64 r.oid, .int .i64 r.next] 3)) := (Below.refl _ _).alloc (Nat.le_refl _) _
    have N2 : Below w1.heap.size w1 w2 := hbA.trans (hb2.mono hbA.size)
    have M2 : Below W.heap.size W w2 := hb1.trans (N2.mono hb1.size)
    have B2 : Below w.heap.size w w2 := B1.trans (N2.mono B1.size)
    have ho2' : OwnB w2 w.heap.size a2 c2 y2 := ho2.base (Nat.le_trans B1.size hbA.size)
    clear hy2 hbA hb2 ho2 N2
    go_wp2_with fail
    refine wp_region_held_drew (S := fun w' => w'.cell? ⟨w.heap.size, 5, none⟩ = some (.bool r.bf.v.has) ∧ w'.cell? ⟨w.heap.size, 6, none⟩ = some (.int .i64 r.bf.v.o.kind) ∧ w'.cell? ⟨w.heap.size, 7, none⟩ = some (.slice r.bf.aI r.bf.v.o.ints.length r.bf.cI) ∧ w'.cell? ⟨w.heap.size, 8, none⟩ = some (.slice r.bf.aR r.bf.v.o.refs.length r.bf.cR) ∧ w'.cell? ⟨w.heap.size, 9, none⟩ = some (.bool r.af.v.has) ∧ w'.cell? ⟨w.heap.size, 10, none⟩ = some (.int .i64 r.af.v.o.kind) ∧ w'.cell? ⟨w.heap.size, 11, none⟩ = some (.slice r.af.aI r.af.v.o.ints.length r.af.cI) ∧ w'.cell? ⟨w.heap.size, 12, none⟩ = some (.slice r.af.aR r.af.v.o.refs.length r.af.cR)) (by kernel_rfl) (HC.out _ (HX.out _ M2.drew)) (fun hHeld => ?_)
    refine wpAnyH_take (i := 0) (v := .slice a2 y2.length c2) rfl (by kernel_rfl) (by kernel_rfl) (by kernel_rfl) (fun _ _ _ h => h) (Or.inl ⟨by rfl, ?_⟩) hHeld ?_
    · intro w' hSw
      go_simp <;> rfl
    try simp only [Act.put, List.getElem_toArray, List.getElem_cons_zero, List.setIfInBounds_toArray, List.set_cons_zero, List.set_cons_succ]
    refine wpAnyH_take (i := 1) (v := .pointer (some ⟨w.heap.size, 5, none⟩)) rfl (by kernel_rfl) (by kernel_rfl) (by kernel_rfl) (fun _ _ _ h => h) (Or.inl ⟨by rfl, ?_⟩) hHeld ?_
    · intro w' hSw
      go_simp <;> rfl
    try simp only [Act.put, List.getElem_toArray, List.getElem_cons_zero, List.getElem_cons_succ, List.setIfInBounds_toArray, List.set_cons_zero, List.set_cons_succ]
    refine wpAnyH_take (i := 2) (v := .agg #[.bool r.bf.v.has, .int .i64 r.bf.v.o.kind, .slice r.bf.aI r.bf.v.o.ints.length r.bf.cI, .slice r.bf.aR r.bf.v.o.refs.length r.bf.cR]) rfl (by kernel_rfl) (by kernel_rfl) (by kernel_rfl) (fun _ _ _ h => h) (Or.inl ⟨by rfl, ?_⟩) hHeld ?_
    · intro w' hSw
      go_simp <;> rfl
    try simp only [Act.put, List.getElem_toArray, List.getElem_cons_zero, List.getElem_cons_succ, List.setIfInBounds_toArray, List.set_cons_zero, List.set_cons_succ]
    refine wpAnyH_take (i := 4) (v := .pointer (some ⟨w.heap.size, 9, none⟩)) rfl (by kernel_rfl) (by kernel_rfl) (by kernel_rfl) (fun _ _ _ h => h) (Or.inl ⟨by rfl, ?_⟩) hHeld ?_
    · intro w' hSw
      go_simp <;> rfl
    try simp only [Act.put, List.getElem_toArray, List.getElem_cons_zero, List.getElem_cons_succ, List.setIfInBounds_toArray, List.set_cons_zero, List.set_cons_succ]
    refine wpAnyH_take (i := 5) (v := .agg #[.bool r.af.v.has, .int .i64 r.af.v.o.kind, .slice r.af.aI r.af.v.o.ints.length r.af.cI, .slice r.af.aR r.af.v.o.refs.length r.af.cR]) rfl (by kernel_rfl) (by kernel_rfl) (by kernel_rfl) (fun _ _ _ h => h) (Or.inl ⟨by rfl, ?_⟩) hHeld ?_
    · intro w' hSw
      go_simp <;> rfl
    try simp only [Act.put, List.getElem_toArray, List.getElem_cons_zero, List.getElem_cons_succ, List.setIfInBounds_toArray, List.set_cons_zero, List.set_cons_succ]
    refine wpAnyH_ready (rs := [3]) (by kernel_rfl) (by simp) ?_
    refine AllReadyH.cons rfl (fun K hK => ?_) AllReadyH.nil
    go_simp
    refine (putSlot_any a2 c2 y2 r.bf _ (hg.keep B2.drew) (ho2'.reads.below (Below.refl _ _).drew) ho2'.nocap (ReadsO.below hr.bf B2.drew) (one_fit hl.bf) (by omega)).mono ?_
    rintro e w3 ⟨a3, c3, y3, rfl, HY3, ho3, hb3⟩
    have hpb := putObj_len r.bf.v.o
    have hpo := (putOf_len ((putObjOf r.bf.v.o).length : Int)).2
    have hyl3 : y3.length ≤ 1500 := by rw [HY3.out]; simp only [List.length_append]; omega
    have M3 : Below W.heap.size W w3 := M2.drew.trans (hb3.mono M2.drew.size)
    have B3 : Below w.heap.size w w3 := B2.drew.trans (hb3.mono B2.drew.size)
    have ho3' : OwnB w3 w.heap.size a3 c3 y3 := ho3.base B2.size
    refine hK.out _ _ (HC.out _ (HX.out _ M3)) (fun hHeld => ?_)
    clear hK K
    try simp only [Act.put, List.getElem_toArray, List.getElem_cons_zero, List.getElem_cons_succ, List.setIfInBounds_toArray, List.set_cons_zero, List.set_cons_succ]
    refine wpAnyH_ready (rs := [6]) (by kernel_rfl) (by simp) ?_
    refine AllReadyH.cons rfl (fun K hK => ?_) AllReadyH.nil
    go_simp
    refine (putSlot_any a3 c3 y3 r.af _ (hg.keep B3) ho3'.reads ho3'.nocap (ReadsO.below hr.af B3) (one_fit hl.af) (by omega)).mono ?_
    rintro e w4 ⟨a4, c4, y4, rfl, HY4, ho4, hb4⟩
    have hpb' := putObj_len r.af.v.o
    have hpo' := (putOf_len ((putObjOf r.af.v.o).length : Int)).2
    have hyl4 : y4.length ≤ 3000 := by rw [HY4.out]; simp only [List.length_append]; omega
    have M4 : Below W.heap.size W w4 := M3.trans (hb4.mono M3.size)
    have B4 : Below w.heap.size w w4 := B3.trans (hb4.mono B3.size)
    have ho4' : OwnB w4 w.heap.size a4 c4 y4 := ho4.base B3.size
    refine hK.out _ _ (HC.out _ (HX.out _ M4)) (fun hHeld => ?_)
    clear hK K
    try simp only [Act.put, List.getElem_toArray, List.getElem_cons_zero, List.getElem_cons_succ, List.setIfInBounds_toArray, List.set_cons_zero, List.set_cons_succ]
    refine wpAnyH_take (i := 7) (v := .slice a4 y4.length c4) rfl (by kernel_rfl) (by kernel_rfl) (by kernel_rfl) (fun _ _ _ h => h) (Or.inl ⟨by rfl, ?_⟩) hHeld ?_
    · intro w' hSw
      go_simp <;> rfl
    try simp only [Act.put, List.getElem_toArray, List.getElem_cons_zero, List.getElem_cons_succ, List.setIfInBounds_toArray, List.set_cons_zero, List.set_cons_succ]
    refine wpAnyH_done (by kernel_rfl) ?_ _
    have HP4 : Hid (y4 = (((headR r.v).flatMap putOf ++ (putOf (putObjOf r.bf.v.o).length ++ putObjOf r.bf.v.o)) ++ (putOf (putObjOf r.af.v.o).length ++ putObjOf r.af.v.o))) := by rw [Hid, HY4.out, HY3.out, HY2.out]
    have x14 := (HX.out w4 M4).cell 14 _ rfl
    clear hHeld HY4 HY3 HY2 ho4 ho3 ho3' ho2' hb3 hb4 hyl2 hyl3 hpb hpo hpb' hpo' M2 M3 B2 B3 HC
    go_wp2_with fail
    refine (putInts_any a4 c4 y4 _ _ [(r.txs.length : Int)] _ (ho4'.reads.below ((Below.refl _ _).alloc (Nat.le_refl _) _)) ho4'.nocap (readsI_one w4 _ _) (by simp only [List.length_cons, List.length_nil]; omega)).mono ?_
    clear x14
    rintro e w5 ⟨a5, c5, y5, rfl, hy5, ho5, hb5⟩
    have hbA : Below w4.heap.size w4 (w4.alloc (.cells #[.int .i64 (r.txs.length : Int)] 3)) := (Below.refl _ _).alloc (Nat.le_refl _) _
    have N5 : Below w4.heap.size w4 w5 := hbA.trans (hb5.mono hbA.size)
    have M5 : Below W.heap.size W w5 := M4.trans (N5.mono M4.size)
    have B5 : Below w.heap.size w w5 := B4.trans (N5.mono B4.size)
    have HY5 : Hid (y5 = y4 ++ putOf (r.txs.length : Int)) := by rw [Hid, hy5]; simp
    have ho5' : OwnB w5 w.heap.size a5 c5 y5 := ho5.base (Nat.le_trans B4.size hbA.size)
    have hyl5 : y5.length ≤ 4000 := by have := (putOf_len (r.txs.length : Int)).2; rw [HY5.out]; simp only [List.length_append]; omega
    have HRR : Hid (R = y5 ++ r.txs.flatMap putLive) := by rw [Hid, HR.out, HY5.out, HP4.out]; rfl
    have x14 := (HX.out w5 M5).cell 14 _ rfl
    have hrt := hr.txs.below B5
    clear hy5 hb5 ho5 hbA N5 HY5 HP4 HR ho4' M4 B4 hyl4
    generalize r.txs = ls at *
    generalize r.aL = aL at *
    generalize r.cL = cL at *
    go_wp2_with fail
    clear x14
    go_loopw [3, 40] (fun b i wr => ∃ (a' : Option Addr) (c' : Nat) (ys : List Int) (k : Nat), b = .slice a' ys.length c' ∧ i = .int .i64 k ∧ k ≤ ls.length ∧ Hid (ys = y5 ++ (ls.take k).flatMap putLive) ∧ OwnB wr w.heap.size a' c' ys ∧ Below w5.heap.size w5 wr)
      (fun _ i _ => ls.length - (intOf i).toNat)
    case atStart => exact ⟨a5, c5, y5, 0, rfl, rfl, Nat.zero_le _, by simp [Hid], ho5', Below.refl _ _⟩
    case round =>
      obtain ⟨a', c', ys, k, rfl, rfl, hk, hy, ho, hbl⟩ := hrel
      clear ho5'
      have Bl : Below w.heap.size w wr := B5.trans (hbl.mono B5.size)
      have hyl : ys.length ≤ 10000 := by
        have h1 := flatL_len (ls.take k)
        rw [hy.out, List.length_append]
        rw [List.length_take] at h1
        omega
      by_cases hlt : k < ls.length
      · obtain ⟨b, off, rfl, hcell⟩ := (hrt.below hbl) (by intro e; rw [e] at hlt; simp at hlt)
        obtain ⟨c0, c1, c2'⟩ := hcell k hlt
        have HF : Hid (_ = _) := flatL_step ls k hlt
        have HPL : Hid (∀ z : LiveV, putLive z = (putOf z.tx ++ putOf z.last) ++ putOf (if z.aborts then 1 else 0)) := fun _ => rfl
        clear hcell hrt
        generalize ls.getD k zeroL = z at *
        obtain ⟨W6, hW6, b6, hb6, hs6⟩ := boxes1 wr [.int .i64 z.tx, .int .i64 z.last, .bool z.aborts] 65
        have HC6 : Hid (∀ w', Box w' wr.heap.size [.int .i64 z.tx, .int .i64 z.last, .bool z.aborts] 65 → w'.cell? ⟨wr.heap.size, 0, none⟩ = some (.int .i64 z.tx) ∧ w'.cell? ⟨wr.heap.size, 1, none⟩ = some (.int .i64 z.last) ∧ w'.cell? ⟨wr.heap.size, 2, none⟩ = some (.bool z.aborts)) := fun w' b => ⟨b.cell 0 _ rfl, b.cell 1 _ rfl, b.cell 2 _ rfl⟩
        have l6 := b6.lt
        have L6 : Below wr.heap.size wr W6 := hb6
        clear hs6 hb6
        go_wp2_with fail
        rw [hW6.out]
        clear hW6 c0 c1 c2'
        refine wp_region_held_drew (S := fun w' => w'.cell? ⟨wr.heap.size, 0, none⟩ = some (.int .i64 z.tx) ∧ w'.cell? ⟨wr.heap.size, 1, none⟩ = some (.int .i64 z.last) ∧ w'.cell? ⟨wr.heap.size, 2, none⟩ = some (.bool z.aborts)) (by kernel_rfl) (HC6.out _ (b6.below (Below.refl _ _).drew b6.lt)) (fun hHeld => ?_)
        refine wpAnyH_take (i := 0) (v := (.slice a' ys.length c')) rfl (by kernel_rfl) (by kernel_rfl) (by kernel_rfl) (fun _ _ _ h => h) (Or.inl ⟨by rfl, ?_⟩) hHeld ?_
        · intro w' hSw
          go_simp <;> rfl
        try simp only [Act.put, List.getElem_toArray, List.getElem_cons_zero, List.setIfInBounds_toArray, List.set_cons_zero, List.set_cons_succ]
        refine wpAnyH_take (i := 1) (v := .pointer (some ⟨wr.heap.size, 0, none⟩)) rfl (by kernel_rfl) (by kernel_rfl) (by kernel_rfl) (fun _ _ _ h => h) (Or.inl ⟨by rfl, ?_⟩) hHeld ?_
        · intro w' hSw
          go_simp <;> rfl
        try simp only [Act.put, List.getElem_toArray, List.getElem_cons_zero, List.getElem_cons_succ, List.setIfInBounds_toArray, List.set_cons_zero, List.set_cons_succ]
        refine wpAnyH_take (i := 2) (v := .int .i64 z.tx) rfl (by kernel_rfl) (by kernel_rfl) (by kernel_rfl) (fun _ _ _ h => h) (Or.inl ⟨by rfl, ?_⟩) hHeld ?_
        · intro w' hSw
          go_simp <;> rfl
        try simp only [Act.put, List.getElem_toArray, List.getElem_cons_zero, List.getElem_cons_succ, List.setIfInBounds_toArray, List.set_cons_zero, List.set_cons_succ]
        refine wpAnyH_take (i := 3) (v := .pointer (some ⟨wr.heap.size, 1, none⟩)) rfl (by kernel_rfl) (by kernel_rfl) (by kernel_rfl) (fun _ _ _ h => h) (Or.inl ⟨by rfl, ?_⟩) hHeld ?_
        · intro w' hSw
          go_simp <;> rfl
        try simp only [Act.put, List.getElem_toArray, List.getElem_cons_zero, List.getElem_cons_succ, List.setIfInBounds_toArray, List.set_cons_zero, List.set_cons_succ]
        refine wpAnyH_take (i := 4) (v := .int .i64 z.last) rfl (by kernel_rfl) (by kernel_rfl) (by kernel_rfl) (fun _ _ _ h => h) (Or.inl ⟨by rfl, ?_⟩) hHeld ?_
        · intro w' hSw
          go_simp <;> rfl
        try simp only [Act.put, List.getElem_toArray, List.getElem_cons_zero, List.getElem_cons_succ, List.setIfInBounds_toArray, List.set_cons_zero, List.set_cons_succ]
        refine wpAnyH_take (i := 5) (v := .pointer (some ⟨wr.heap.size, 2, none⟩)) rfl (by kernel_rfl) (by kernel_rfl) (by kernel_rfl) (fun _ _ _ h => h) (Or.inl ⟨by rfl, ?_⟩) hHeld ?_
        · intro w' hSw
          go_simp <;> rfl
        try simp only [Act.put, List.getElem_toArray, List.getElem_cons_zero, List.getElem_cons_succ, List.setIfInBounds_toArray, List.set_cons_zero, List.set_cons_succ]
        refine wpAnyH_take (i := 6) (v := .bool z.aborts) rfl (by kernel_rfl) (by kernel_rfl) (by kernel_rfl) (fun _ _ _ h => h) (Or.inl ⟨by rfl, ?_⟩) hHeld ?_
        · intro w' hSw
          go_simp <;> rfl
        try simp only [Act.put, List.getElem_toArray, List.getElem_cons_zero, List.getElem_cons_succ, List.setIfInBounds_toArray, List.set_cons_zero, List.set_cons_succ]
        refine wpAnyH_ready (rs := [7]) (by kernel_rfl) (by simp) ?_
        refine AllReadyH.cons rfl (fun K hK => ?_) AllReadyH.nil
        go_simp
        refine (flagInt_any z.aborts _).mono ?_
        rintro e u ⟨rfl, hu⟩
        rw [hu]
        clear hu u
        generalize hfl : (if z.aborts then (1 : Int) else 0) = fl at *
        refine hK.out _ _ (HC6.out _ (b6.below (Below.refl _ _).drew b6.lt)) (fun hHeld => ?_)
        clear hK K
        try simp only [Act.put, List.getElem_toArray, List.getElem_cons_zero, List.getElem_cons_succ, List.setIfInBounds_toArray, List.set_cons_zero, List.set_cons_succ]
        refine wpAnyH_ready (rs := [8]) (by kernel_rfl) (by simp) ?_
        refine AllReadyH.cons rfl (fun K hK => ?_) AllReadyH.nil
        go_simp
        refine hK.out _ _ (HC6.out _ (b6.below ((Below.refl _ _).drew.alloc (Nat.le_refl _) _) b6.lt)) (fun hHeld => ?_)
        clear hK K
        try simp only [Act.put, List.getElem_toArray, List.getElem_cons_zero, List.getElem_cons_succ, List.setIfInBounds_toArray, List.set_cons_zero, List.set_cons_succ]
        refine wpAnyH_ready (rs := [9]) (by kernel_rfl) (by simp) ?_
        refine AllReadyH.cons rfl (fun K hK => ?_) AllReadyH.nil
        go_simp
        have L7 : Below W6.heap.size W6 ((W6.drew).alloc (.cells #[.int .i64 z.tx, .int .i64 z.last, .int .i64 fl] 3)) := (Below.refl _ _).drew.alloc (Nat.le_refl _) _
        have L7' : Below wr.heap.size wr ((W6.drew).alloc (.cells #[.int .i64 z.tx, .int .i64 z.last, .int .i64 fl] 3)) := L6.trans (L7.mono L6.size)
        refine (putInts_any a' c' ys _ _ [z.tx, z.last, fl] _ (ho.reads.below L7') ho.nocap (readsI_lit W6.drew [z.tx, z.last, fl] _) (by simp only [List.length_cons, List.length_nil]; omega)).mono ?_
        rintro e w8 ⟨a8, c8, y8, rfl, hy8, ho8, hb8⟩
        have L8 : Below wr.heap.size wr w8 := L7'.trans (hb8.mono L7'.size)
        have M8 : Below W6.heap.size W6 w8 := L7.trans (hb8.mono L7.size)
        have HY : Hid (y8 = y5 ++ (ls.take (k + 1)).flatMap putLive) := by rw [Hid, hy8, hy.out, HF.out, HPL.out, hfl]; simp
        have ho8' : OwnB w8 w.heap.size a8 c8 y8 := ho8.base (Nat.le_trans Bl.size L7'.size)
        refine hK.out _ _ (HC6.out _ (b6.below M8 b6.lt)) (fun hHeld => ?_)
        clear hK K
        try simp only [Act.put, List.getElem_toArray, List.getElem_cons_zero, List.getElem_cons_succ, List.setIfInBounds_toArray, List.set_cons_zero, List.set_cons_succ]
        refine wpAnyH_take (i := 10) (v := .slice a8 y8.length c8) rfl (by kernel_rfl) (by kernel_rfl) (by kernel_rfl) (fun _ _ _ h => h) (Or.inl ⟨by rfl, ?_⟩) hHeld ?_
        · intro w' hSw
          go_simp <;> rfl
        try simp only [Act.put, List.getElem_toArray, List.getElem_cons_zero, List.getElem_cons_succ, List.setIfInBounds_toArray, List.set_cons_zero, List.set_cons_succ]
        refine wpAnyH_done (by kernel_rfl) ?_ _
        clear hHeld hy8 hb8 ho8 b6 HC6 hfl HF HPL
        go_wp2_with fail
        go_roundw
        case rel => exact ⟨a8, c8, y8, k + 1, rfl, by go_num, by omega, HY, ho8', hbl.trans (L8.mono hbl.size)⟩
        case measure => simp [intOf]; omega
      · have HE : Hid (ys = R) := by rw [Hid, hy.out, HRR.out, List.take_of_length_le (by omega)]
        go_wp2
        go_ret
        exact ⟨a', c', ys, rfl, HE, ho, Bl⟩
end Go.Proofs.YtjaojcgfgkppgaaDoor

/- What came in, read: a slice of numbers, an object. -/
namespace Go.Proofs.YtjaojcgfgkppgaaDoor
open Go.ChangeShapes Go.WideShapes Go.ChangeAt Go.RowKit

def InI64 (z : Int) : Prop := -9223372036854775808 ≤ z ∧ z ≤ 9223372036854775807
theorem wf_i64 {z : Int} (h : (Lit.int .i64 z).wf = true) : InI64 z := by
  simp [Lit.wf, IntKind.min, IntKind.max, IntKind.signed, IntKind.bits] at h
  unfold InI64; omega

theorem some_at {α : Type} (xs : List α) (i : Nat) (h : i < xs.length) : ∃ y, xs[i]? = some y := ⟨_, List.getElem?_eq_getElem h⟩

section
variable {H : Type} {enc : TypeId × Value → H} {w : World} {base : Nat} {spare : Nat → Bool} {held : Bool}

theorem trod_ints {fuel : Nat} {cs : List Value} {x : DataW H × List MemPlace} (h : DataW.trod enc Tryd.prog w base spare held fuel 24 cs = some x) :
    ∃ (a : Option Addr) (c : Nat) (ns : List Int), cs = [.slice a ns.length c] ∧ ReadsI w a ns ∧ (a = none → c = 0) ∧ ns.length ≤ maxLen ∧ ∀ z ∈ ns, InI64 z := by
  rcases open_ints Tryd.underlying24 Tryd.underlying3 (by kernel_rfl) h with ⟨rfl, _⟩ | ⟨a, len, cap, zs, rfl, _, hl, hm, hz, _, hcell, hwf⟩
  · exact ⟨none, 0, [], rfl, fun h => absurd rfl h, fun _ => rfl, by simp, by simp⟩
  · have hlz : len ≤ zs.length := by rw [hz]; split <;> omega
    refine ⟨some a, cap, zs.take len, by simp; omega, ?_, (fun h => by cases h), by simp; omega, fun z hzz => wf_i64 (hwf z (List.mem_of_mem_take hzz))⟩
    intro hne
    have hpos := List.length_pos_iff.2 hne
    simp at hpos
    obtain ⟨b, off, spot⟩ := a
    have hc0 := hcell 0 (by omega)
    have hspot : spot = none := by simpa [Addr.add] using World.cell?_spot hc0
    subst hspot
    refine ⟨b, off, rfl, fun i hi => ?_⟩
    have hi' : i < len := by simp at hi; omega
    have := hcell i (by omega)
    have e : (List.take len zs).getD i 0 = zs.getD i 0 := by simp [List.getD, hi']
    rw [e, ← Addr_add]
    exact this

theorem trod_num {fuel : Nat} {cs : List Value} {x : DataW H × List MemPlace} (h : DataW.trod enc Tryd.prog w base spare held fuel 3 cs = some x) : ∃ n : Int, cs = [.int .i64 n] ∧ InI64 n := by
  obtain ⟨n, rfl, _, hw⟩ := DataW.trod_int Tryd.underlying3 h
  exact ⟨n, rfl, wf_i64 hw⟩

theorem Tryd.cellsI : Tryd.prog.cellsOf 3 = 1 := by kernel_rfl
theorem Tryd.cellsIs : Tryd.prog.cellsOf 24 = 1 := by kernel_rfl
theorem Tryd.cellsO : Tryd.prog.cellsOf 47 = 3 := by kernel_rfl

set_option maxRecDepth 100000 in
theorem trod_obj {fuel : Nat} {cs : List Value} {x : DataW H × List MemPlace} (h : DataW.trod enc Tryd.prog w base spare held fuel 47 cs = some x) :
    ∃ (o : ObjV) (aI : Option Addr) (cI : Nat) (aR : Option Addr) (cR : Nat), cs = [.int .i64 o.kind, .slice aI o.ints.length cI, .slice aR o.refs.length cR] ∧ ReadsO w aI cI aR cR o ∧ o.ints.length ≤ maxLen ∧ o.refs.length ≤ maxLen ∧ InI64 o.kind ∧ (∀ z ∈ o.ints, InI64 z) ∧ (∀ z ∈ o.refs, InI64 z) := by
  obtain ⟨xs, n, _, _, hlen, hxl, hf⟩ := DataW.trod_struct Tryd.underlying47 h
  rw [Tryd.cellsO] at hlen
  match cs, hlen with
  | [v0, v1, v2], _ =>
    have f0 := hf 0 _ rfl
    have f1 := hf 1 _ rfl
    have f2 := hf 2 _ rfl
    obtain ⟨y0, hx0⟩ := some_at xs 0 (by rw [hxl]; decide)
    obtain ⟨y1, hx1⟩ := some_at xs 1 (by rw [hxl]; decide)
    obtain ⟨y2, hx2⟩ := some_at xs 2 (by rw [hxl]; decide)
    rw [hx0] at f0
    rw [hx1] at f1
    rw [hx2] at f2
    simp only [List.getElem_toArray, List.getElem_cons_zero, List.getElem_cons_succ, Tryd.cellsI, Tryd.cellsIs, List.drop, List.take] at f0 f1 f2
    obtain ⟨k, e0, wk⟩ := trod_num f0
    obtain ⟨aI, cI, ints, e1, hI, nI, lI, wI⟩ := trod_ints f1
    obtain ⟨aR, cR, refs, e2, hR, nR, lR, wR⟩ := trod_ints f2
    simp only [List.cons.injEq, and_true] at e0 e1 e2
    subst e0 e1 e2
    exact ⟨⟨k, ints, refs⟩, aI, cI, aR, cR, rfl, ⟨hI, hR, nI, nR⟩, lI, lR, wk, wI, wR⟩

set_option maxRecDepth 100000 in
/-- An object that came in as an argument. -/
theorem open_obj {b0 : Nat} {v : Value} {d : DataW H} {ps : List MemPlace} (hval : Value.okWide Tryd.prog w .any b0 47 v) (h : DataW.Trod enc Tryd.prog w base spare held 47 v d ps) :
    ∃ (o : ObjV) (aI : Option Addr) (cI : Nat) (aR : Option Addr) (cR : Nat), v = .agg #[.int .i64 o.kind, .slice aI o.ints.length cI, .slice aR o.refs.length cR] ∧ ReadsO w aI cI aR cR o ∧ o.ints.length ≤ maxLen ∧ o.refs.length ≤ maxLen ∧ InI64 o.kind ∧ (∀ z ∈ o.ints, InI64 z) ∧ (∀ z ∈ o.refs, InI64 z) := by
  obtain ⟨cs, rfl, hcs⟩ := okWide_struct Tryd.underlying47 hval
  obtain ⟨fuel, hf⟩ := h
  have e : (Value.agg cs).cells.toList = cs.toList := rfl
  rw [e] at hf
  obtain ⟨o, aI, cI, aR, cR, hc, rest⟩ := trod_obj hf
  refine ⟨o, aI, cI, aR, cR, ?_, rest⟩
  congr 1
  apply Array.toList_inj.1
  rw [hc]
end
end Go.Proofs.YtjaojcgfgkppgaaDoor

/- What came in, read: a slot, a page. -/
namespace Go.Proofs.YtjaojcgfgkppgaaDoor
open Go.ChangeShapes Go.WideShapes Go.ChangeAt Go.RowKit

/-- A slot as it came in: its lists are read, its numbers are 64-bit numbers. -/
structure InSlot (w : World) (s : SlotA) : Prop where
  reads : s.reads w
  lI : s.v.o.ints.length ≤ maxLen
  lR : s.v.o.refs.length ≤ maxLen
  kind : InI64 s.v.o.kind
  ints : ∀ z ∈ s.v.o.ints, InI64 z
  refs : ∀ z ∈ s.v.o.refs, InI64 z

section
variable {H : Type} {enc : TypeId × Value → H} {w : World} {base : Nat} {spare : Nat → Bool} {held : Bool}

theorem Tryd.cellsB : Tryd.prog.cellsOf 4 = 1 := by kernel_rfl
theorem Tryd.cellsSl : Tryd.prog.cellsOf 49 = 4 := by kernel_rfl
set_option maxRecDepth 100000 in
theorem trod_slot {fuel : Nat} {cs : List Value} {x : DataW H × List MemPlace} (h : DataW.trod enc Tryd.prog w base spare held fuel 49 cs = some x) :
    ∃ s : SlotA, cs = s.cells ∧ InSlot w s := by
  obtain ⟨xs, n, _, _, hlen, hxl, hf⟩ := DataW.trod_struct Tryd.underlying49 h
  rw [Tryd.cellsSl] at hlen
  match cs, hlen with
  | [v0, v1, v2, v3], _ =>
    have f0 := hf 0 _ rfl
    have f1 := hf 1 _ rfl
    obtain ⟨y0, hx0⟩ := some_at xs 0 (by rw [hxl]; decide)
    obtain ⟨y1, hx1⟩ := some_at xs 1 (by rw [hxl]; decide)
    rw [hx0] at f0
    rw [hx1] at f1
    simp only [List.getElem_toArray, List.getElem_cons_zero, List.getElem_cons_succ, Tryd.cellsB, Tryd.cellsO, List.drop, List.take] at f0 f1
    obtain ⟨b, e0, _⟩ := DataW.trod_bool Tryd.underlying4 f0
    obtain ⟨o, aI, cI, aR, cR, e1, hr, lI, lR, wk, wI, wR⟩ := trod_obj f1
    simp only [List.cons.injEq, and_true] at e0 e1
    obtain ⟨rfl, rfl, rfl⟩ := e1
    subst e0
    exact ⟨⟨⟨b, o⟩, aI, cI, aR, cR⟩, rfl, hr, lI, lR, wk, wI, wR⟩

theorem four_of (cs : List Value) (h : cs.length = 16) (f : ∀ i, i < 4 → ∃ s : SlotA, (cs.drop (i * 4)).take 4 = s.cells ∧ InSlot w s) : ∃ ss : List SlotA, ss.length = 4 ∧ cs = cellsS ss ∧ ∀ s ∈ ss, InSlot w s := by
  obtain ⟨s0, e0, h0⟩ := f 0 (by omega)
  obtain ⟨s1, e1, h1⟩ := f 1 (by omega)
  obtain ⟨s2, e2, h2⟩ := f 2 (by omega)
  obtain ⟨s3, e3, h3⟩ := f 3 (by omega)
  refine ⟨[s0, s1, s2, s3], rfl, ?_, ?_⟩
  · simp only [cellsS, List.flatMap_cons, List.flatMap_nil, List.append_nil, ← e0, ← e1, ← e2, ← e3]
    simp only [Nat.zero_mul, Nat.one_mul, List.drop_zero]
    have d : ∀ (l : List Value) (k : Nat), l.drop k = (l.drop k).take 4 ++ l.drop (k + 4) := fun l k => by rw [← List.drop_drop, List.take_append_drop]
    have a0 := d cs 0
    have a1 := d cs 4
    have a2 := d cs 8
    have a3 := d cs 12
    rw [List.drop_zero] at a0
    have a4 : cs.drop (12 + 4) = [] := List.drop_eq_nil_of_le (by omega)
    rw [a4, List.append_nil] at a3
    simp only [show 0 + 4 = 4 from rfl, show 4 + 4 = 8 from rfl, show 8 + 4 = 12 from rfl, show 2 * 4 = 8 from rfl, show 3 * 4 = 12 from rfl] at *
    conv => lhs; rw [a0, a1, a2, a3]
  · intro s hs
    simp only [List.mem_cons, List.not_mem_nil, or_false] at hs
    rcases hs with rfl | rfl | rfl | rfl <;> assumption

set_option maxRecDepth 100000 in
/-- A slot that came in as an argument. -/
theorem open_slot {b0 : Nat} {v : Value} {d : DataW H} {ps : List MemPlace} (hval : Value.okWide Tryd.prog w .any b0 49 v) (h : DataW.Trod enc Tryd.prog w base spare held 49 v d ps) :
    ∃ s : SlotA, v = .agg s.cells.toArray ∧ InSlot w s := by
  obtain ⟨cs, rfl, hcs⟩ := okWide_struct Tryd.underlying49 hval
  obtain ⟨fuel, hf⟩ := h
  have e : (Value.agg cs).cells.toList = cs.toList := rfl
  rw [e] at hf
  obtain ⟨s, hc, rest⟩ := trod_slot hf
  refine ⟨s, ?_, rest⟩
  congr 1
  apply Array.toList_inj.1
  rw [hc]
end
end Go.Proofs.YtjaojcgfgkppgaaDoor

/- What came in, read: a record. -/
namespace Go.Proofs.YtjaojcgfgkppgaaDoor
open Go.ChangeShapes Go.WideShapes Go.ChangeAt Go.RowKit

/-- A record as it came in: its lists are read, its numbers are 64-bit numbers. -/
structure InRec (w : World) (r : RecA) : Prop where
  bf : InSlot w r.bf
  af : InSlot w r.af
  txs : ReadsL w r.aL r.txs
  lT : r.txs.length ≤ maxLen
  nums : InI64 r.lsn ∧ InI64 r.tx ∧ InI64 r.prev ∧ InI64 r.kind ∧ InI64 r.oid ∧ InI64 r.next
theorem InRec.reads {w : World} {r : RecA} (h : InRec w r) : r.reads w := ⟨h.bf.reads, h.af.reads, h.txs⟩

section
variable {H : Type} {enc : TypeId × Value → H} {w : World} {base : Nat} {spare : Nat → Bool} {held : Bool}

theorem Tryd.cellsLv : Tryd.prog.cellsOf 134 = 3 := by kernel_rfl
theorem Tryd.cellsLvs : Tryd.prog.cellsOf 50 = 1 := by kernel_rfl
theorem Tryd.cellsRc : Tryd.prog.cellsOf 52 = 15 := by kernel_rfl

set_option maxRecDepth 100000 in
theorem trod_live {fuel : Nat} {cs : List Value} {x : DataW H × List MemPlace} (h : DataW.trod enc Tryd.prog w base spare held fuel 134 cs = some x) : ∃ t : LiveV, cs = t.cells := by
  obtain ⟨xs, n, _, _, hlen, hxl, hf⟩ := DataW.trod_struct Tryd.underlying134 h
  rw [Tryd.cellsLv] at hlen
  match cs, hlen with
  | [v0, v1, v2], _ =>
    have f0 := hf 0 _ rfl
    have f1 := hf 1 _ rfl
    have f2 := hf 2 _ rfl
    obtain ⟨y0, hx0⟩ := some_at xs 0 (by rw [hxl]; decide)
    obtain ⟨y1, hx1⟩ := some_at xs 1 (by rw [hxl]; decide)
    obtain ⟨y2, hx2⟩ := some_at xs 2 (by rw [hxl]; decide)
    rw [hx0] at f0
    rw [hx1] at f1
    rw [hx2] at f2
    simp only [List.getElem_toArray, List.getElem_cons_zero, List.getElem_cons_succ, Tryd.cellsB, Tryd.cellsI, List.drop, List.take] at f0 f1 f2
    obtain ⟨a, e0, _⟩ := trod_num f0
    obtain ⟨b, e1, _⟩ := trod_num f1
    obtain ⟨c, e2, _⟩ := DataW.trod_bool Tryd.underlying4 f2
    simp only [List.cons.injEq, and_true] at e0 e1 e2
    subst e0 e1 e2
    exact ⟨⟨a, b, c⟩, rfl⟩

set_option maxRecDepth 100000 in
theorem trod_lives {fuel : Nat} {cs : List Value} {x : DataW H × List MemPlace} (h : DataW.trod enc Tryd.prog w base spare held fuel 50 cs = some x) :
    ∃ (a : Option Addr) (c : Nat) (ls : List LiveV), cs = [.slice a ls.length c] ∧ ReadsL w a ls ∧ ls.length ≤ maxLen := by
  rcases DataW.trod_slice Tryd.underlying50 h with ⟨rfl, _⟩ | ⟨a, len, cap, elems, rest, n, _, rfl, _, _, hl, hm, hlen, hel, _, _⟩
  · exact ⟨none, 0, [], rfl, ReadsL.nil _ _, by simp⟩
  rw [Tryd.cellsLv] at hel
  have each : ∀ i, i < len → ∃ t : LiveV, w.cells? base (a.add (i * 3)) 3 = some t.cells := by
    intro i hi
    have hy := hel i hi
    rw [List.getElem?_eq_getElem (by omega : i < elems.length), Option.bind_eq_some_iff] at hy
    obtain ⟨cs', hcs, hy'⟩ := hy
    obtain ⟨t, e⟩ := trod_live hy'
    exact ⟨t, by rw [hcs, e]⟩
  obtain ⟨f, hf⟩ : ∃ f : Nat → LiveV, ∀ i, i < len → w.cells? base (a.add (i * 3)) 3 = some (f i).cells := by
    refine ⟨fun i => if h : i < len then (each i h).choose else zeroL, fun i hi => ?_⟩
    simp only [dif_pos hi]
    exact (each i hi).choose_spec
  refine ⟨some a, cap, (List.range len).map f, by simp, ?_, by simp; omega⟩
  intro hne
  have hpos := List.length_pos_iff.2 hne
  simp only [List.length_map, List.length_range] at hpos ⊢
  obtain ⟨b, off, spot⟩ := a
  have c0 := (World.cells?_some (hf 0 hpos)).2.2 0 (by decide)
  have hspot : spot = none := by simpa [Addr.add] using World.cell?_spot c0
  subst hspot
  refine ⟨b, off, rfl, fun k hk => ?_⟩
  have e : ((List.range len).map f).getD k zeroL = f k := by simp [List.getD, hk]
  rw [e]
  have hc := (World.cells?_some (hf k hk)).2.2
  have d0 := hc 0 (by decide)
  have d1 := hc 1 (by decide)
  have d2 := hc 2 (by decide)
  simp only [Addr_add, LiveV.cells] at d0 d1 d2
  exact ⟨by simpa using d0, by simpa using d1, by simpa using d2⟩

set_option maxRecDepth 100000 in
theorem trod_rec {fuel : Nat} {cs : List Value} {x : DataW H × List MemPlace} (h : DataW.trod enc Tryd.prog w base spare held fuel 52 cs = some x) :
    ∃ r : RecA, cs = r.cells ∧ InRec w r := by
  obtain ⟨xs, n, _, _, hlen, hxl, hf⟩ := DataW.trod_struct Tryd.underlying52 h
  rw [Tryd.cellsRc] at hlen
  match cs, hlen with
  | [v0, v1, v2, v3, v4, v5, v6, v7, v8, v9, v10, v11, v12, v13, v14], _ =>
    have f0 := hf 0 _ rfl
    have f1 := hf 1 _ rfl
    have f2 := hf 2 _ rfl
    have f3 := hf 3 _ rfl
    have f4 := hf 4 _ rfl
    have f5 := hf 5 _ rfl
    have f6 := hf 6 _ rfl
    have f7 := hf 7 _ rfl
    have f8 := hf 8 _ rfl
    obtain ⟨y0, hx0⟩ := some_at xs 0 (by rw [hxl]; decide)
    rw [hx0] at f0
    obtain ⟨y1, hx1⟩ := some_at xs 1 (by rw [hxl]; decide)
    rw [hx1] at f1
    obtain ⟨y2, hx2⟩ := some_at xs 2 (by rw [hxl]; decide)
    rw [hx2] at f2
    obtain ⟨y3, hx3⟩ := some_at xs 3 (by rw [hxl]; decide)
    rw [hx3] at f3
    obtain ⟨y4, hx4⟩ := some_at xs 4 (by rw [hxl]; decide)
    rw [hx4] at f4
    obtain ⟨y5, hx5⟩ := some_at xs 5 (by rw [hxl]; decide)
    rw [hx5] at f5
    obtain ⟨y6, hx6⟩ := some_at xs 6 (by rw [hxl]; decide)
    rw [hx6] at f6
    obtain ⟨y7, hx7⟩ := some_at xs 7 (by rw [hxl]; decide)
    rw [hx7] at f7
    obtain ⟨y8, hx8⟩ := some_at xs 8 (by rw [hxl]; decide)
    rw [hx8] at f8
    simp only [List.getElem_toArray, List.getElem_cons_zero, List.getElem_cons_succ, Tryd.cellsI, Tryd.cellsSl, Tryd.cellsLvs, List.drop, List.take] at f0 f1 f2 f3 f4 f5 f6 f7 f8
    obtain ⟨n0, e0, w0⟩ := trod_num f0
    obtain ⟨n1, e1, w1⟩ := trod_num f1
    obtain ⟨n2, e2, w2⟩ := trod_num f2
    obtain ⟨n3, e3, w3⟩ := trod_num f3
    obtain ⟨n4, e4, w4⟩ := trod_num f4
    obtain ⟨n5, e5, w5⟩ := trod_num f7
    obtain ⟨s, e6, hs⟩ := trod_slot f5
    obtain ⟨u, e7, hu⟩ := trod_slot f6
    obtain ⟨aL, cL, ls, e8, hL, lL⟩ := trod_lives f8
    simp only [SlotA.cells, List.cons.injEq, and_true] at e0 e1 e2 e3 e4 e5 e6 e7 e8
    obtain ⟨g0, g1, g2, g3⟩ := e6
    obtain ⟨k0, k1, k2, k3⟩ := e7
    subst e0 e1 e2 e3 e4 e5 e8 g0 g1 g2 g3 k0 k1 k2 k3
    exact ⟨⟨n0, n1, n2, n3, n4, s, u, n5, ls, aL, cL⟩, rfl, hs, hu, hL, lL, w0, w1, w2, w3, w4, w5⟩

set_option maxRecDepth 100000 in
/-- A record that came in as an argument. -/
theorem open_rec {b0 : Nat} {v : Value} {d : DataW H} {ps : List MemPlace} (hval : Value.okWide Tryd.prog w .any b0 52 v) (h : DataW.Trod enc Tryd.prog w base spare held 52 v d ps) :
    ∃ r : RecA, v = .agg r.cells.toArray ∧ InRec w r := by
  obtain ⟨cs, rfl, hcs⟩ := okWide_struct Tryd.underlying52 hval
  obtain ⟨fuel, hf⟩ := h
  have e : (Value.agg cs).cells.toList = cs.toList := rfl
  rw [e] at hf
  obtain ⟨r, hc, rest⟩ := trod_rec hf
  refine ⟨r, ?_, rest⟩
  congr 1
  apply Array.toList_inj.1
  rw [hc]
end
end Go.Proofs.YtjaojcgfgkppgaaDoor

/- What the laws of records share. -/
namespace Go.Proofs.YtjaojcgfgkppgaaDoor
open Go.RowKit

def zeroR : RecA := ⟨0, 0, 0, 0, 0, zeroS, zeroS, 0, [], none, 0⟩
theorem short_of {r t : RecA} {m : Nat} (h : t.v = r.v) (hl : r.short m) : t.short m := by
  simp only [RecA.v, RecV.mk.injEq] at h
  obtain ⟨_, _, _, _, _, h1, h2, _, h3⟩ := h
  exact ⟨by rw [h1]; exact hl.bf, by rw [h2]; exact hl.af, by rw [h3]; exact hl.txs⟩
theorem short_wide {r : RecA} (hl : r.short 1048576) : r.short 1099511627776 := ⟨by have := hl.bf; omega, by have := hl.af; omega, by have := hl.txs; omega⟩
theorem InRec.short {w : World} {r : RecA} (h : InRec w r) : r.short 9223372036854775807 := by
  have h1 := h.bf.lI
  have h2 := h.bf.lR
  have h3 := h.af.lI
  have h4 := h.af.lR
  have h5 := h.lT
  simp only [maxLen] at h1 h2 h3 h4 h5
  exact ⟨by omega, by omega, by omega⟩
theorem RecA.own.blocks_lt {w : World} {lo hi : Nat} {r : RecA} (h : r.own w lo hi) : ∀ k ∈ r.blocks, lo ≤ k ∧ k < hi := by
  intro k hk
  simp only [RecA.blocks, List.mem_append, Option.mem_toList] at hk
  rcases hk with h1 | h1 | h1
  · exact SlotA.blocks_lt h.bf k h1
  · exact SlotA.blocks_lt h.af k h1
  · exact h.txs.lt k h1
theorem toRec_law (r : RecA) (w : World) (hr : r.reads w) (hl : r.short 1048576) :
    Calls Tryd.prog 20 #[.agg r.cells.toArray] w fun e w' => ∃ t : RecA, e = .returned (.agg t.cells.toArray) ∧ Hid (t.v = r.v) ∧ t.own w' w.heap.size w'.heap.size ∧ Below w.heap.size w w' :=
  toRec_own r w hr (short_wide hl).bf (short_wide hl).af (short_wide hl).txs
theorem putRec_len (r : RecV) : (putRecOf r).length ≤ 100000 := by
  unfold putRecOf
  split
  · rename_i h
    have h0 := okR_txs h
    have h1 := flatN_len (headR r)
    have h2 := putSlot_len r.bf
    have h3 := putSlot_len r.af
    have h4 := (putOf_len (r.txs.length : Int)).2
    have h5 := flatL_len r.txs
    have h6 : (headR r).length = 6 := rfl
    simp only [bodyR, List.length_append]
    omega
  · simp
end Go.Proofs.YtjaojcgfgkppgaaDoor

/- The walk of laws.FnExactPutRec. -/
namespace Go.Proofs.YtjaojcgfgkppgaaDoor
open Go.RowKit

set_option maxHeartbeats 4000000 in
set_option maxRecDepth 100000 in
theorem lawPutRec_walk (p : RecA) (w : World) (hg : ErrT w) (hin : InRec w p) :
    Calls Tryd.prog 6 #[.agg p.cells.toArray] w fun e w' => e = .returned (.bool true) ∧ Below w.heap.size w w' := by
  have hsm : p.short 9223372036854775807 := hin.short
  have hrd : p.reads w := hin.reads
  have HPL : Hid ((putRecOf p.v).length ≤ 100000) := putRec_len _
  obtain ⟨W, hW, b0, hbW, hsW⟩ := boxes1 w p.cells 52
  have HRG : Hid (∀ w', Below W.heap.size W w' → w'.rangeAt w.heap.size 0 p.cells) := fun w' hh => Box.range [] p.cells [] (by simpa using b0.below hh b0.lt)
  have HI : Hid ((Tryd.prog.info? 52).map (·.size) = some p.cells.length) := by rw [Hid]; kernel_rfl
  have hRd : ∀ w', Below W.heap.size W w' → p.reads w' := fun w' hh => hrd.below (hbW.trans (hh.mono hbW.size))
  have hgB : ∀ w', Below W.heap.size W w' → ErrT w' := fun w' hh => hg.keep (hbW.trans (hh.mono hbW.size))
  go_enter Tryd.func6, Tryd.ntmps6
  go_wp2_with (first | (guard_target = wpList _ _ _ (Oper.mk (some 11) _ _ _ _ _ :: _) _ _; refine wpList_load_mid rfl 52 (.tmp 1) rfl w.heap.size 0 rfl p.cells _ (by rw [hW.out]; exact HRG.out _ (Below.refl _ _)) Tryd.underlying52 rfl HI.out ?_) | fail)
  rw [hW.out]
  clear hW hsW
  refine (szRec_any p 1048576 W hsm (by omega)).mono ?_
  rintro e w1 ⟨z, rfl, hz, hb1⟩
  rcases hz with hneg | ⟨hz0, _, hl⟩
  · go_wp2
    go_ret
    exact ⟨rfl, hbW.trans (hb1.mono hbW.size)⟩
  have hzn : ¬ z < 0 := by omega
  go_wp2_with (first | (guard_target = wpList _ _ _ (Oper.mk (some 16) _ _ _ _ _ :: _) _ _; refine wpList_load_mid rfl 52 (.tmp 1) rfl w.heap.size 0 rfl p.cells _ (HRG.out _ hb1) Tryd.underlying52 rfl HI.out ?_) | fail)
  refine (toRec_law p w1 (hRd w1 hb1) hl).mono ?_
  rintro e w2 ⟨ts, rfl, hv2, ho2, hb2⟩
  have B2 : Below W.heap.size W w2 := hb1.trans (hb2.mono hb1.size)
  go_wp2_with fail
  refine (specPutRec_any ts w2 ho2.reads (short_wide (short_of hv2.out hl))).mono ?_
  simp only [hv2.out]
  clear hv2 ho2 hb2
  rintro e w3 ⟨aw, cw, yw, rfl, HYW, how, hb3⟩
  have ow3 := how.spanned
  have hs2 := B2.size
  have hs3 := hb3.size
  have hywl : yw.length ≤ 100000 := by rw [HYW.out]; exact HPL.out
  have B3 : Below W.heap.size W w3 := B2.trans (hb3.mono B2.size)
  clear B2 hb3 how
  go_wp2_with (first | (guard_target = wpList _ _ _ (Oper.mk (some 19) _ _ _ _ _ :: _) _ _; refine wpList_load_mid rfl 52 (.tmp 1) rfl w.heap.size 0 rfl p.cells _ (HRG.out _ B3) Tryd.underlying52 rfl HI.out ?_) | fail)
  refine (toRec_law p w3 (hRd w3 B3) hl).mono ?_
  rintro e w4 ⟨q, rfl, hqm, hqo, hb4⟩
  have B4 : Below W.heap.size W w4 := B3.trans (hb4.mono B3.size)
  have hs4 := hb4.size
  have hqS := short_of hqm.out hl
  obtain ⟨W5, hW5, b5, hbW5, hsW5⟩ := boxes1 w4 [.int .i64 0, .int .i64 0, .int .i64 0, .int .i64 0, .int .i64 0, .bool false, .int .i64 0, .slice none 0 0, .slice none 0 0, .bool false, .int .i64 0, .slice none 0 0, .slice none 0 0, .int .i64 0, .slice none 0 0] 31
  have b5' : Box W5 w4.heap.size ([] ++ (zeroR.cells ++ [])) 31 := b5
  clear b5
  obtain ⟨W6, hW6, b6, hw6, hs6⟩ := range_fill [] zeroR.cells q.cells [] b5' (by rfl)
  have HI6 : Hid ((Tryd.prog.info? 31).map (·.size) = some q.cells.length) := by rw [Hid]; kernel_rfl
  have HT6 : Hid (W5.there w4.heap.size 0 q.cells.toArray.size) := b5'.there 0 _ (by rw [List.size_toArray]; show 0 + 15 ≤ 15; decide)
  have hs45 := hbW5.size
  have N46 : Below w4.heap.size w4 W6 := hbW5.trans (hw6.below (Nat.le_refl _) (by omega))
  have B6 : Below W.heap.size W W6 := B4.trans (N46.mono B4.size)
  have oq6 : q.own W6 w3.heap.size w4.heap.size := hqo.below N46
  have ow6 := (ow3.below hb4).below N46
  have HR6 : Hid (∀ w', Below W6.heap.size W6 w' → w'.rangeAt w4.heap.size 0 q.cells) := fun w' hh => Box.range [] q.cells [] (by simpa using b6.below hh b6.lt)
  have HS : Hid (W5.setCells w4.heap.size 0 q.cells = W6) := hW6.out
  have HO : Hid (_) := all_oneCell_toArray (oneR q)
  have hs46 := N46.size
  have hlt6 := b6.lt
  clear hW6 b6 hw6 hs6 b5' hqo hsW5 hbW5
  go_wp2_with (first | (guard_target = wpList _ _ _ (Oper.mk none (Op.store _ (Operand.tmp 5) _) _ _ _ _ :: _) _ _; refine wpList_store_mid rfl 31 (.tmp 5) (.tmp 20) rfl w4.heap.size 0 q.cells.toArray rfl rfl (by rw [hW5.out]; exact HT6.out) (by rw [List.size_toArray]; exact HI6.out) HO.out ?_) | (guard_target = wpList _ _ _ (Oper.mk (some 21) _ _ _ _ _ :: _) _ _; refine wpList_load_mid rfl 31 (.tmp 5) rfl w4.heap.size 0 rfl q.cells _ (by rw [hW5.out, HS.out]; exact HR6.out _ (Below.refl _ _)) Tryd.underlying31 rfl HI6.out ?_) | fail)
  rw [hW5.out, HS.out]
  clear hW5 HS HT6 HO
  refine (implPutRec_any q W6 (hgB _ B6) oq6.reads (short_wide hqS)).mono ?_
  rw [hqm.out]
  rintro e w7 ⟨ag, cg, yg, rfl, HYG, hog, hb7⟩
  obtain rfl : yg = yw := by rw [HYG.out, HYW.out]
  clear HYG
  have hs7 := hb7.size
  have og7 := hog.spanned
  have ow7 := ow6.below hb7
  have oq7 := oq6.below hb7
  have B7 : Below W.heap.size W w7 := B6.trans (hb7.mono B6.size)
  clear ow6 oq6 hog
  go_wp2_with fail
  refine (eqByteS_same ag aw cg cw yg w7 og7.reads ow7.reads (by omega)).mono ?_
  rintro e w8 ⟨rfl, n8, rfl⟩
  have N78 : Below w7.heap.size w7 (w7.drewN n8) := below_drewN (Below.refl _ _) n8
  have og8 := og7.below N78
  have ow8 := ow7.below N78
  have oq8 := oq7.below N78
  have D8 : Below W6.heap.size W6 (w7.drewN n8) := hb7.trans (N78.mono hb7.size)
  have B8 : Below W.heap.size W (w7.drewN n8) := B7.trans (N78.mono B7.size)
  have hs8 : w7.heap.size ≤ (w7.drewN n8).heap.size := N78.size
  generalize w7.drewN n8 = w8 at *
  clear og7 ow7 oq7 B7 hb7
  have HQ : Hid (_) := hqm.out
  have hu1 := Tryd.underlying52
  have hu2 := Tryd.underlying31
  have hi1 := HI.out
  have hi2 := HI6.out
  have hHR : Hid (∀ w', Below W6.heap.size W6 w' → _) := HR6.out
  clear hqm hin hsm hrd
  go_wp2_with fail
  refine wp_region_held_drew (S := fun w' => w'.rangeAt w.heap.size 0 p.cells ∧ w'.rangeAt w4.heap.size 0 q.cells) (by kernel_rfl) ?_ (fun hHeld => ?_)
  · exact ⟨HRG.out _ B8.drew, HR6.out _ D8.drew⟩
  refine wpAnyH_take (i := 0) rfl (by kernel_rfl) (by kernel_rfl) (by kernel_rfl) (fun _ _ _ h => h) (yieldsIf_load_mid (by rfl) _ _ rfl _ _ rfl q.cells _ (fun _ h => h.2) hu2 rfl hi2) hHeld ?_
  refine wpAnyH_take (i := 1) rfl (by kernel_rfl) (by kernel_rfl) (by kernel_rfl) (fun _ _ _ h => h) (yieldsIf_load_mid (by rfl) _ _ rfl _ _ rfl p.cells _ (fun _ h => h.1) hu1 rfl hi1) hHeld ?_
  refine wpAnyH_ready (rs := [2]) (by kernel_rfl) (by simp) ?_
  refine AllReadyH.cons rfl (fun K hK => ?_) AllReadyH.nil
  go_simp
  refine (toRec_law p _ (hRd _ B8.drew) hl).mono ?_
  rintro e w9 ⟨vs, rfl, hv9, ho9, hb9⟩
  have N89 : Below w8.heap.size w8 w9 := ((Below.refl _ _).drew).trans hb9
  have B9 : Below W.heap.size W w9 := B8.trans (N89.mono B8.size)
  have D9 : Below W6.heap.size W6 w9 := D8.trans (N89.mono D8.size)
  refine hK.out _ _ ⟨HRG.out _ B9, HR6.out _ D9⟩ (fun hHeld => ?_)
  clear hK K
  refine wpAnyH_ready (rs := [3]) (by kernel_rfl) (by simp) ?_
  refine AllReadyH.cons rfl (fun K hK => ?_) AllReadyH.nil
  go_simp
  refine (eqRec_same q vs (hv9.out.trans HQ.out.symm) w9 (oq8.reads.below N89) ho9.reads (short_wide hqS)).mono ?_
  rintro e w10 ⟨rfl, hb10⟩
  have N810 : Below w8.heap.size w8 w10 := N89.trans (hb10.mono N89.size)
  have B10 : Below W.heap.size W w10 := B8.trans (N810.mono B8.size)
  have D10 : Below W6.heap.size W6 w10 := D8.trans (N810.mono D8.size)
  refine hK.out _ _ ⟨HRG.out _ B10, HR6.out _ D10⟩ (fun hHeld => ?_)
  clear hK K
  refine wpAnyH_take (i := 4) (v := .bool false) rfl (by kernel_rfl) (by kernel_rfl) (by kernel_rfl) (fun _ _ _ h => h) (Or.inl ⟨by rfl, ?_⟩) hHeld ?_
  · intro w' _; go_simp
  refine wpAnyH_done (by kernel_rfl) ?_ _
  have og10 := og8.below N810
  have ow10 := ow8.below N810
  have oq10 := oq8.below N810
  have hr10 := HR6.out _ D10
  have hs10 := N810.size
  clear hHeld hb10 hb9 ho9 hv9 N89 B9 D9 og8 ow8 oq8 hu1 hu2 hi1 hi2 hHR
  go_wp2_with (first | (guard_target = wpList _ _ _ (Oper.mk (some 32) _ _ _ _ _ :: _) _ _; refine wpList_load_mid rfl 31 (.tmp 5) rfl w4.heap.size 0 rfl q.cells _ hr10 Tryd.underlying31 rfl HI6.out ?_) | fail)
  clear hr10
  refine (markRec_touch q w3.heap.size w4.heap.size 1 w10 oq10 (short_wide hqS) (by omega) (by omega)).mono ?_
  rintro e w11 ⟨rfl, _, ht11⟩
  have hw11 : Within w3.heap.size w4.heap.size w10 w11 := ht11.within oq10.blocks_lt
  have hs11 := hw11.size
  have og11 : OwnR w11 W6.heap.size w7.heap.size ag cg yg := og10.within hw11 (.inr (by omega))
  have ow11 : OwnR w11 w2.heap.size w3.heap.size aw cw yg := ow10.within hw11 (.inl (Nat.le_refl _))
  have B11 : Below W.heap.size W w11 := B10.trans (hw11.below (by omega) (by have := B10.size; omega))
  have hcn : ¬ ((1 : Int) + (q.count : Int)) < 0 := by omega
  clear ht11 hw11 og10 ow10 oq10
  generalize q.count = cq at *
  go_wp2_with fail
  refine (eqByteS_same ag aw cg cw yg w11 og11.reads ow11.reads (by omega)).mono ?_
  rintro e w12 ⟨rfl, n12, rfl⟩
  have N12 : Below w11.heap.size w11 (w11.drewN n12) := below_drewN (Below.refl _ _) n12
  have og12 := og11.below N12
  have ow12 := ow11.below N12
  have B12 : Below W.heap.size W (w11.drewN n12) := B11.trans (N12.mono B11.size)
  have hs12 : w11.heap.size ≤ (w11.drewN n12).heap.size := N12.size
  generalize w11.drewN n12 = w12 at *
  clear og11 ow11
  go_wp2_with fail
  refine (markByteS_r W6.heap.size w7.heap.size ag cg 1 yg w12 og12 (by omega) (by omega)).mono ?_
  rintro e w13 ⟨mg, rfl, hmg, omg, hw13⟩
  have ow13 : OwnR w13 w2.heap.size w3.heap.size aw cw yg := ow12.within hw13 (.inl (by omega))
  have B13 : Below W.heap.size W w13 := B12.trans (hw13.below (by omega) (by have := B12.size; omega))
  have hs13 := hw13.size
  go_wp2_with fail
  refine (heldByteS_r W6.heap.size w7.heap.size ag cg 1 yg.length mg w13 omg hmg (by omega) (by omega)).mono ?_
  rintro e w14 ⟨rfl, rfl⟩
  go_wp2_with (first | (guard_target = wpList _ _ _ (Oper.mk (some 54) _ _ _ _ _ :: _) _ _; refine wpList_load_mid rfl 52 (.tmp 1) rfl w.heap.size 0 rfl p.cells _ (HRG.out _ B13) Tryd.underlying52 rfl HI.out ?_) | fail)
  refine (toRec_law p _ (hRd _ B13) hl).mono ?_
  rintro e w15 ⟨xs, rfl, hv15, ho15, hb15⟩
  have B15 : Below W.heap.size W w15 := B13.trans (hb15.mono B13.size)
  go_wp2_with fail
  refine (implPutRec_any xs w15 (hgB _ B15) ho15.reads (short_wide (short_of hv15.out hl))).mono ?_
  simp only [hv15.out]
  rintro e w16 ⟨ah, ch, yh, rfl, HYH, hoh, hb16⟩
  obtain rfl : yh = yg := by rw [HYH.out, HYW.out]
  have N16 : Below w14.heap.size w14 w16 := hb15.trans (hb16.mono hb15.size)
  have ow16 := ow13.below N16
  have omg16 := omg.below N16
  have B16 : Below W.heap.size W w16 := B13.trans (N16.mono B13.size)
  go_wp2_with fail
  refine (eqByteS_same ah aw ch cw yh w16 hoh.reads ow16.reads (by omega)).mono ?_
  rintro e w17 ⟨rfl, n17, rfl⟩
  go_wp2_with fail
  refine (heldByteS_r W6.heap.size w7.heap.size ag cg 1 yh.length mg (w16.drewN n17) (omg16.below (below_drewN (Below.refl _ _) n17)) hmg (by omega) (by omega)).mono ?_
  rintro e w18 ⟨rfl, rfl⟩
  go_wp2
  go_ret
  exact ⟨rfl, below_drewN (hbW.trans (B16.mono hbW.size)) n17⟩
end Go.Proofs.YtjaojcgfgkppgaaDoor

/- What the row's condition on errors.errorType gives a walk; a world that meets it. -/
namespace Go.Proofs.YtjaojcgfgkppgaaDoor
open Go.ChangeShapes Go.WideShapes Go.RowKit

theorem Tryd.et : Tryd.prog.globalNamed "errors.errorType" = some 0 := by kernel_rfl
theorem Tryd.rt : (Tryd.prog.cutTypes.find? (·.1 == "internal/reflectlite.rtype")).map (·.2) = some 189 := by kernel_rfl
theorem Tryd.oneRow : ((List.range 231).filter fun t => Tryd.prog.rowNamed t [101, 114, 114, 111, 114]) = [159] := by kernel_rfl
theorem Tryd.typesSize : Tryd.prog.types.size = 231 := by kernel_rfl

theorem errT_of_handles {W : World} {laid : List (String × DataW Unit)} (hm : ("errors.errorType", Rows.laid_errors_errorType) ∈ laid) (h : handlesMet Tryd.prog laid W) : ErrT W := by
  obtain ⟨name, u, ty, e1, e2, e3, e4, e5⟩ := h _ hm
  have en : name = [101, 114, 114, 111, 114] := (Option.some.inj e1).symm
  subst en
  obtain rfl := Option.some.inj (Tryd.rt.symm.trans e2)
  have hm : ty ∈ (List.range 231).filter fun t => Tryd.prog.rowNamed t [101, 114, 114, 111, 114] := List.mem_filter.2 ⟨List.mem_range.2 (by rw [← Tryd.typesSize]; exact e3), e4⟩
  rw [Tryd.oneRow] at hm
  obtain rfl := List.mem_singleton.1 hm
  have hh : typeHandle Tryd.prog 159 = .pointer (some ⟨1, 159, none⟩) := by kernel_rfl
  rw [hh] at e5
  unfold ErrT
  simpa using World.var?_cell Tryd.et e5 0

/-- The one listed variable. -/
def laid1 : List (String × DataW Unit) := [("errors.errorType", Rows.laid_errors_errorType)]
theorem errT_of_laid1 {W : World} (h : laidMetH Tryd.prog laid1 W) : ErrT W := by
  have h' : laidMet Tryd.prog [] W ∧ handlesMet Tryd.prog laid1 W := h
  exact errT_of_handles (List.mem_singleton.2 rfl) h'.2
end Go.Proofs.YtjaojcgfgkppgaaDoor
