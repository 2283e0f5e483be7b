/- Several texts in one, in their order. -/
import Derived.Test.YtickiokdcbeefaaGreatDoorPFnLogsx7
import Derived.Test.YtickiokdcbeefaaGreatDoorPFnLogsx5
import Derived.Deep.RegionHeld3
import Derived.Test.YtickiokdcbeefaaGreatDoorPFnLogsx3
import Derived.Test.YtickiokdcbeefaaGreatDoorPFnLogsx4
/- The walks of spec.l3PutSlot and spec.PutPage. -/
namespace Go.Proofs.YtickiokdcbeefaaGreatDoor
open Go.RowKit

set_option maxHeartbeats 400000 in
set_option maxRecDepth 100000 in
theorem l3PutSlot_any (a : Option Addr) (c : Nat) (xs : List Int) (s : SlotA) (w : World) (hx : Reads w a xs) (hc : a = none → c = 0) (hr : s.reads w) (hl : Fit [s]) (hxl : xs.length ≤ 1000000) :
    Calls Tryz.prog 37 #[.slice a xs.length c, .agg s.cells.toArray] w fun e w' => ∃ a' c' ys, e = .returned (.slice a' ys.length c') ∧ Hid (ys = xs ++ putSlotOf s.v) ∧ OwnB w' w.heap.size a' c' ys ∧ Below w.heap.size w w' := by
  obtain ⟨h1, h2⟩ := hl s (List.mem_singleton.2 rfl)
  obtain ⟨W, hW, b0, hbW, hsW⟩ := boxes1 w s.cells 39
  have C1 := specPutObj_any s.v.o s.aI s.cI s.aR s.cR W (ReadsO.below hr hbW) (by omega) (by omega)
  have HT : Hid (s.v.has = true → putSlotOf s.v = putOf (putObjOf s.v.o).length ++ putObjOf s.v.o) := fun h => by unfold putSlotOf; rw [if_pos h]
  have HF : Hid (s.v.has = false → putSlotOf s.v = putOf 0) := fun h => by unfold putSlotOf; rw [if_neg (by rw [h]; decide)]
  have hpl := putObj_len s.v.o
  have HC : Hid (a = none → c = 0) := hc
  generalize putSlotOf s.v = R at *
  simp only [SlotA.cells] at *
  clear hc
  cases hh : s.v.has with
  | false =>
    have HR : Hid (_ = _) := HF.out hh
    rw [hh] at hW
    clear hh HT HF C1
    go_enter Tryz.func37, Tryz.ntmps37
    go_wp2_with fail
    rw [hW.out]
    refine (specPutInt_any a c xs 0 W (hx.below hbW) HC.out (by omega)).mono ?_
    rintro e w1 ⟨a1, c1, y1, rfl, hy1, ho1, hb1⟩
    have HY : Hid (y1 = xs ++ R) := by rw [Hid, hy1, HR.out]
    clear hy1
    go_wp2
    go_ret
    exact ⟨a1, c1, y1, rfl, HY, ho1.base hbW.size, hbW.trans (hb1.mono hbW.size)⟩
  | true =>
    have HR : Hid (_ = _) := HT.out hh
    rw [hh] at hW
    clear hh HT HF
    go_enter Tryz.func37, Tryz.ntmps37
    go_wp2_with fail
    rw [hW.out]
    refine C1.mono ?_
    clear C1
    rintro e w1 ⟨a1, c1, y1, rfl, HY1, ho1, hb1⟩
    have B1 : Below w.heap.size w w1 := hbW.trans (hb1.mono hbW.size)
    have hyl : y1.length ≤ 1000 := by rw [HY1.out]; exact hpl
    go_wp2_with fail
    refine (specPutInt_any a c xs y1.length w1 (hx.below B1) HC.out (by omega)).mono ?_
    rintro e w2 ⟨a2, c2, y2, rfl, hy2, ho2, hb2⟩
    have HY2 : Hid (y2 = xs ++ putOf y1.length) := hy2
    have hyl2 : y2.length ≤ 1000100 := by have := (putOf_len (y1.length : Int)).2; rw [HY2.out, List.length_append]; omega
    have B2 : Below w.heap.size w w2 := B1.trans (hb2.mono B1.size)
    have ho2' := ho2.base B1.size
    have hr12 := ho1.reads.below hb2
    have hnc := ho1.nocap
    have HNC : Hid (_) := hnc
    have hs2 := B2.size
    clear hy2 hnc
    go_wp2_with (at_builtin; refine append_bytes rfl _ _ rfl w.heap.size a2 c2 y2 rfl ho2' a1 c1 y1 rfl hr12 HNC.out (by omega) hs2 ?_; intro a3 c3 y3 w3 hy3 ho3 hg3)
    have HY : Hid (y3 = xs ++ R) := by rw [Hid, hy3.out, HY2.out, HR.out, HY1.out]; simp only [List.append_assoc]
    go_ret
    exact ⟨a3, c3, y3, rfl, HY, ho3, B2.grown hg3 hs2 (fun k hk => (ho2'.2.lt k hk).1)⟩

end Go.Proofs.YtickiokdcbeefaaGreatDoor

/- The walk of spec.PutRec. -/
namespace Go.Proofs.YtickiokdcbeefaaGreatDoor
open Go.RowKit

def putLive (l : LiveV) : List Int := (putOf l.tx ++ putOf l.last) ++ putOf (if l.aborts then 1 else 0)
def headR (r : RecV) : List Int := [r.lsn, r.tx, r.prev, r.kind, r.oid, r.next]
def bodyR (r : RecV) : List Int := ((((headR r).flatMap putOf ++ putSlotOf r.bf) ++ putSlotOf r.af) ++ putOf r.txs.length) ++ r.txs.flatMap putLive
/-- The bytes of a record. -/
def putRecOf (r : RecV) : List Int := if okR r then bodyR r else []
theorem putRec_ok {r : RecV} (h : okR r = true) : putRecOf r = bodyR r := by unfold putRecOf; rw [if_pos h]
theorem putRec_no {r : RecV} (h : okR r = false) : putRecOf r = [] := by unfold putRecOf; rw [if_neg (by rw [h]; decide)]
theorem flatN_len (ns : List Int) : (ns.flatMap putOf).length ≤ ns.length * 65 := by
  induction ns with
  | nil => simp
  | cons n r ih => have := (putOf_len n).2; simp only [List.flatMap_cons, List.length_append, List.length_cons]; omega
theorem putLive_len (l : LiveV) : (putLive l).length ≤ 195 := by
  have h1 := (putOf_len l.tx).2
  have h2 := (putOf_len l.last).2
  have h3 := (putOf_len (if l.aborts then 1 else 0)).2
  simp only [putLive, List.length_append]
  omega
theorem flatL_len (ls : List LiveV) : (ls.flatMap putLive).length ≤ ls.length * 195 := by
  induction ls with
  | nil => simp
  | cons n r ih => have := putLive_len n; simp only [List.flatMap_cons, List.length_append, List.length_cons]; omega
theorem flatL_step (ls : List LiveV) (k : Nat) (h : k < ls.length) : (ls.take (k + 1)).flatMap putLive = (ls.take k).flatMap putLive ++ putLive (ls.getD k zeroL) := by
  rw [List.take_add_one, List.flatMap_append]
  simp [List.getD, h]
theorem flatI_step (ns : List Int) (k : Nat) (h : k < ns.length) : (ns.take (k + 1)).flatMap putOf = (ns.take k).flatMap putOf ++ putOf (ns.getD k 0) := by
  rw [List.take_add_one, List.flatMap_append]
  simp [List.getD, h]
theorem okR_txs {r : RecV} (h : okR r = true) : r.txs.length ≤ 20 := by
  unfold okR at h
  simp only [Bool.and_eq_true] at h
  have h4 := h.2.2.2
  by_cases h6 : r.kind == 6
  · rw [if_pos h6] at h4
    simp [livesB] at h4
    exact h4.2.2
  · rw [if_neg h6] at h4
    have h5 := (Bool.and_eq_true _ _ ▸ (Bool.and_eq_true _ _ ▸ h4).2).2
    have hz : ∀ a b c d, zeroB r a b c d false = true → r.txs.length ≤ 20 := by
      intro a b c d hz
      simp only [zeroB, Bool.and_eq_true, Bool.false_or, decide_eq_true_eq] at hz
      omega
    split at h5
    · exact hz _ _ _ _ (Bool.and_eq_true _ _ ▸ h5).1
    · split at h5
      · exact hz _ _ _ _ (Bool.and_eq_true _ _ ▸ h5).1
      · split at h5
        · exact hz _ _ _ _ h5
        · split at h5
          · exact hz _ _ _ _ h5
          · split at h5
            · exact hz _ _ _ _ h5
            · exact absurd h5 (by decide)

set_option maxHeartbeats 4000000 in
set_option maxRecDepth 100000 in
theorem specPutRec_any (r : RecA) (w : World) (hr : r.reads w) (hl : r.short 1099511627776) :
    Calls Tryz.prog 15 #[.agg r.cells.toArray] w fun e w' => ∃ a' c' ys, e = .returned (.slice a' ys.length c') ∧ Hid (ys = putRecOf r.v) ∧ OwnB w' w.heap.size a' c' ys ∧ Below w.heap.size w w' := by
  obtain ⟨W, hW, b0, hbW, hsW⟩ := boxes1 w r.cells 42
  have C1 := specRecOk_any r W (hr.below hbW) hl
  have HPT : Hid (okR r.v = true → putRecOf r.v = bodyR r.v) := fun h => putRec_ok h
  have HPF : Hid (okR r.v = false → putRecOf r.v = []) := fun h => putRec_no h
  have HT20 : Hid (okR r.v = true → r.txs.length ≤ 20) := fun h => okR_txs h
  generalize putRecOf r.v = R at *
  have HCL : Hid (r.cells = _) := rfl
  simp only [RecA.cells] at *
  clear hsW
  go_enter Tryz.func15, Tryz.ntmps15
  go_wp2_with fail
  rw [hW.out]
  clear hW
  refine C1.mono ?_
  clear C1
  rintro e w1 ⟨rfl, hb1⟩
  have B1 : Below w.heap.size w w1 := hbW.trans (hb1.mono hbW.size)
  have b1 := b0.below hb1 b0.lt
  clear b0 hb1 hbW
  cases hok : okR r.v with
  | false =>
    have HR : Hid (R = []) := HPF.out hok
    clear hok HPT HPF HT20
    go_wp2
    go_ret
    exact ⟨_, 0, [], rfl, HR.out.symm, (own_lit0 w1).base B1.size, B1.alloc B1.size _⟩
  | true =>
    have HR : Hid (R = bodyR r.v) := HPT.out hok
    have h20 := HT20.out hok
    clear hok HPT HPF HT20
    obtain ⟨W2, hW2, c0, c1, hb2, hs2⟩ := boxes2 w1 [] [.int .i64 r.lsn, .int .i64 r.tx, .int .i64 r.prev, .int .i64 r.kind, .int .i64 r.oid, .int .i64 r.next] 5 3
    have x0 := (b1.alloc (.cells #[] 5)).cell 0 _ rfl
    have x1 := (b1.alloc (.cells #[] 5)).cell 1 _ rfl
    have x2 := (b1.alloc (.cells #[] 5)).cell 2 _ rfl
    have x3 := (b1.alloc (.cells #[] 5)).cell 3 _ rfl
    have x4 := (b1.alloc (.cells #[] 5)).cell 4 _ rfl
    have x13 := (b1.alloc (.cells #[] 5)).cell 13 _ rfl
    have b2 := b1.below hb2 b1.lt
    have B2 : Below w.heap.size w W2 := B1.trans (hb2.mono B1.size)
    have ho2 : OwnB W2 w.heap.size (some ⟨w1.heap.size, 0, none⟩) 0 [] := by
      have h1 := (own_lit0 w1).below (w' := W2) (by rw [← hW2.out]; exact (Below.refl _ _).alloc (Nat.le_refl _) _)
      exact h1.base B1.size
    go_wp2_with fail
    rw [hW2.out]
    clear hW2 x0 x1 x2 x3 x4 x13
    have HN : Hid (headR r.v = [r.lsn, r.tx, r.prev, r.kind, r.oid, r.next]) := rfl
    generalize hns : headR r.v = ns at *
    have c1' : Box W2 (w1.heap.size + 1) (ns.map (Value.int .i64)) 3 := by rw [HN.out]; exact c1
    have hn6 : Hid (ns.length = 6) := by rw [HN.out]; rfl
    clear c1 c0 HN HCL
    go_loopw [3, 5] (fun b i wr => ∃ (a' : Option Addr) (c' : Nat) (ys : List Int) (k : Nat), b = .slice a' ys.length c' ∧ i = .int .i64 k ∧ k ≤ 6 ∧ Hid (ys = (ns.take k).flatMap putOf) ∧ OwnB wr w.heap.size a' c' ys ∧ Below W2.heap.size W2 wr)
      (fun _ i _ => 6 - (intOf i).toNat)
    case atStart => exact ⟨_, 0, [], 0, rfl, rfl, by omega, rfl, ho2, Below.refl _ _⟩
    case round =>
      obtain ⟨a', c', ys, k, rfl, rfl, hk, hy, ho, hbx⟩ := hrel
      clear ho2
      have hbl : Below w.heap.size w wr := B2.trans (hbx.mono B2.size)
      have hyl : ys.length ≤ 1000 := by
        have h1 := flatN_len (ns.take k)
        rw [hy.out]
        rw [List.length_take] at h1
        omega
      by_cases hlt : k < 6
      · have hkl : k < ns.length := by rw [hn6.out]; exact hlt
        have cr := (c1'.below hbx c1'.lt).cell k (.int .i64 (ns.getD k 0)) (by simp [List.getD, hkl])
        have hi0 : (0 : Int) ≤ (k : Int) := by omega
        have hi4 : (k : Int) < 6 := by omega
        have HF : Hid (_ = _) := flatI_step ns k hkl
        generalize ns.getD k 0 = z at *
        have C := specPutInt_any a' c' ys z wr ho.reads ho.nocap (by omega)
        clear hkl
        go_wp2_with fail
        refine C.mono ?_
        clear C
        rintro e w4 ⟨a4, c4, y4, rfl, hy4, ho4, hb4⟩
        have HY : Hid (y4 = (ns.take (k + 1)).flatMap putOf) := by rw [Hid, hy4, hy.out, HF.out]
        clear hy4
        go_wp2_with fail
        go_roundw
        case rel => exact ⟨a4, c4, y4, k + 1, rfl, by go_num, by omega, HY, ho4.base hbl.size, hbx.trans (hb4.mono hbx.size)⟩
        case measure => simp [intOf]; omega
      · obtain rfl : k = 6 := by omega
        have hkk : ¬ ((6 : Nat) : Int) < 6 := by omega
        have HY0 : Hid (ys = ns.flatMap putOf) := by rw [Hid, hy.out, List.take_of_length_le (by rw [hn6.out]; omega)]
        have br := b2.below hbx b2.lt
        have hltr := br.lt
        have HRB : Hid (∀ u, Below w.heap.size w u → r.bf.reads u) := fun u hu => ReadsO.below hr.bf hu
        have HRA : Hid (∀ u, Below w.heap.size w u → r.af.reads u) := fun u hu => ReadsO.below hr.af hu
        have HFB : Hid (Fit [r.bf]) := fun s hs => by obtain rfl := List.mem_singleton.1 hs; exact hl.bf
        have HFA : Hid (Fit [r.af]) := fun s hs => by obtain rfl := List.mem_singleton.1 hs; exact hl.af
        have HP1 : Hid (_ ≤ _) := putSlot_len r.bf.v
        have HP2 : Hid (_ ≤ _) := putSlot_len r.af.v
        have hkeep : ∀ u, Below wr.heap.size wr u → u.cell? ⟨w.heap.size, 5, none⟩ = some (.bool r.bf.v.has) ∧ u.cell? ⟨w.heap.size, 6, none⟩ = some (.int .i64 r.bf.v.o.kind) ∧ u.cell? ⟨w.heap.size, 7, none⟩ = some (.slice r.bf.aI r.bf.v.o.ints.length r.bf.cI) ∧ u.cell? ⟨w.heap.size, 8, none⟩ = some (.slice r.bf.aR r.bf.v.o.refs.length r.bf.cR) ∧ u.cell? ⟨w.heap.size, 9, none⟩ = some (.bool r.af.v.has) ∧ u.cell? ⟨w.heap.size, 10, none⟩ = some (.int .i64 r.af.v.o.kind) ∧ u.cell? ⟨w.heap.size, 11, none⟩ = some (.slice r.af.aI r.af.v.o.ints.length r.af.cI) ∧ u.cell? ⟨w.heap.size, 12, none⟩ = some (.slice r.af.aR r.af.v.o.refs.length r.af.cR) ∧ u.cell? ⟨w.heap.size, 14, none⟩ = some (.slice r.aL r.txs.length r.cL) :=
          fun u hh => ⟨(br.below hh hltr).cell 5 _ rfl, (br.below hh hltr).cell 6 _ rfl, (br.below hh hltr).cell 7 _ rfl, (br.below hh hltr).cell 8 _ rfl, (br.below hh hltr).cell 9 _ rfl, (br.below hh hltr).cell 10 _ rfl, (br.below hh hltr).cell 11 _ rfl, (br.below hh hltr).cell 12 _ rfl, (br.below hh hltr).cell 14 _ rfl⟩
        have hh := hkeep wr (Below.refl _ _)
        go_wp2_with fail
        go_region_held3 (fun u => u.cell? ⟨w.heap.size, 5, none⟩ = some (.bool r.bf.v.has) ∧ u.cell? ⟨w.heap.size, 6, none⟩ = some (.int .i64 r.bf.v.o.kind) ∧ u.cell? ⟨w.heap.size, 7, none⟩ = some (.slice r.bf.aI r.bf.v.o.ints.length r.bf.cI) ∧ u.cell? ⟨w.heap.size, 8, none⟩ = some (.slice r.bf.aR r.bf.v.o.refs.length r.bf.cR) ∧ u.cell? ⟨w.heap.size, 9, none⟩ = some (.bool r.af.v.has) ∧ u.cell? ⟨w.heap.size, 10, none⟩ = some (.int .i64 r.af.v.o.kind) ∧ u.cell? ⟨w.heap.size, 11, none⟩ = some (.slice r.af.aI r.af.v.o.ints.length r.af.cI) ∧ u.cell? ⟨w.heap.size, 12, none⟩ = some (.slice r.af.aR r.af.v.o.refs.length r.af.cR) ∧ u.cell? ⟨w.heap.size, 14, none⟩ = some (.slice r.aL r.txs.length r.cL))
          (first | exact hkeep _ hw5 | exact hkeep _ hw4 | exact hkeep _ hw3 | go_keep | fail)
          (first
          | (go_at_call_of 37 (Value.slice a' ys.length c'); refine (l3PutSlot_any a' c' ys r.bf _ (ho.reads.below (Below.refl _ _).drew) ho.nocap (HRB.out _ hbl.drew) HFB.out (by omega)).mono ?_; rintro e w3 ⟨a3, c3, y3, rfl, HY3, ho3, hb3⟩; have hw3 : Below wr.heap.size wr w3 := ((Below.refl wr.heap.size wr).drew).trans (hb3.mono (Nat.le_refl _)); have hl3 : y3.length ≤ 3000 := (by have := HP1.out; rw [HY3.out, List.length_append]; omega))
          | (go_at_call_of 37 (Value.slice a3 y3.length c3); refine (l3PutSlot_any a3 c3 y3 r.af w3 ho3.reads ho3.nocap (HRA.out _ (hbl.trans (hw3.mono hbl.size))) HFA.out (by omega)).mono ?_; rintro e w4 ⟨a4, c4, y4, rfl, HY4, ho4, hb4⟩; have hw4 : Below wr.heap.size wr w4 := hw3.trans (hb4.mono hw3.size); have hl4 : y4.length ≤ 5000 := (by have := HP2.out; rw [HY4.out, List.length_append]; omega))
          | (go_at_call_of 36 (Value.slice a4 y4.length c4); refine (specPutInt_any a4 c4 y4 r.txs.length w4 ho4.reads ho4.nocap (by omega)).mono ?_; rintro e w5 ⟨a5, c5, y5, rfl, hy5, ho5, hb5⟩; have hw5 : Below wr.heap.size wr w5 := hw4.trans (hb5.mono hw4.size); have HY5 : Hid (_ = _) := hy5; clear hy5)
          | fail)
        have B5 : Below w.heap.size w w5 := hbl.trans (hw5.mono hbl.size)
        have b5 := br.below hw5 hltr
        have ho5' : OwnB w5 w.heap.size a5 c5 y5 := ho5.base (Nat.le_trans hbl.size hw4.size)
        obtain ⟨H, hH⟩ : ∃ H, Hid (H = ((ns.flatMap putOf ++ putSlotOf r.bf.v) ++ putSlotOf r.af.v) ++ putOf r.txs.length) := ⟨_, rfl⟩
        have HY : Hid (y5 = H) := by rw [Hid, HY5.out, HY4.out, HY3.out, HY0.out, hH.out]
        have HRR : Hid (R = H ++ r.txs.flatMap putLive) := by rw [Hid, HR.out, hH.out, ← hns]; rfl
        have hHl : H.length ≤ 6000 := by
          have h1 := (putOf_len (r.txs.length : Int)).2
          rw [← HY.out, HY5.out, List.length_append]
          omega
        have hrt := hr.txs
        clear HY5 HY4 HY3 HY0 hH HR hns hn6 hh hkeep ho5 ho4 ho3 hb5 hb4 hb3 hw5 hw4 hw3 hl3 hl4 HP1 HP2 HFA HFB HRA HRB br hltr hbl hbx ho hy hyl hkk c1' b1 b2 B1 B2 hb2 hs2 hl hr hk hlt
        go_wp2_with fail
        go_loopw [3, 6] (fun b i wr => ∃ (a' : Option Addr) (c' : Nat) (ys : List Int) (k : Nat), b = .slice a' ys.length c' ∧ i = .int .i64 k ∧ k ≤ r.txs.length ∧ Hid (ys = H ++ (r.txs.take k).flatMap putLive) ∧ OwnB wr w.heap.size a' c' ys ∧ Below w5.heap.size w5 wr)
          (fun _ i _ => r.txs.length - (intOf i).toNat)
        case atStart => exact ⟨a5, c5, y5, 0, rfl, rfl, by omega, by rw [Hid, HY.out]; simp, ho5', Below.refl _ _⟩
        case round =>
        obtain ⟨a', c', ys, k, rfl, rfl, hk, hy, ho, hbx⟩ := hrel
        clear HY ho5'
        have hbl : Below w.heap.size w wr := B5.trans (hbx.mono B5.size)
        have br := b5.below hbx b5.lt
        have hltr := br.lt
        have d14 := br.cell 14 _ rfl
        have hyl : ys.length ≤ 100000 := by
          have h1 := flatL_len (r.txs.take k)
          rw [hy.out, List.length_append]
          rw [List.length_take] at h1
          omega
        by_cases hlt : k < r.txs.length
        · obtain ⟨bk, off, haL, hcell⟩ := (hrt.below hbl) (by intro e; rw [e] at hlt; simp at hlt)
          obtain ⟨d0, d1, d2⟩ := hcell k hlt
          have HF : Hid (_ = _) := flatL_step r.txs k hlt
          generalize r.txs.getD k zeroL = z at *
          rw [haL] at d14
          have hkeep : ∀ u, Below wr.heap.size wr u → u.cell? ⟨w.heap.size, 14, none⟩ = some (.slice (some ⟨bk, off, none⟩) r.txs.length r.cL) ∧ u.cell? ⟨bk, off + k * 3, none⟩ = some (.int .i64 z.tx) ∧ u.cell? ⟨bk, off + k * 3 + 1, none⟩ = some (.int .i64 z.last) := fun u hu => ⟨(hu.cell (block_lt d14)).trans d14, (hu.cell (block_lt d0)).trans d0, (hu.cell (block_lt d1)).trans d1⟩
          have hh := hkeep wr (Below.refl _ _)
          clear hcell br b5 haL hrt
          cases hza : z.aborts with
          | false =>
            have HF2 : Hid ((r.txs.take (k + 1)).flatMap putLive = (r.txs.take k).flatMap putLive ++ ((putOf z.tx ++ putOf z.last) ++ putOf 0)) := by rw [Hid, HF.out, putLive, hza]; rfl
            rw [hza] at d2
            clear HF
            go_wp2_with fail
            go_region_held3 (fun u => u.cell? ⟨w.heap.size, 14, none⟩ = some (.slice (some ⟨bk, off, none⟩) r.txs.length r.cL) ∧ u.cell? ⟨bk, off + k * 3, none⟩ = some (.int .i64 z.tx) ∧ u.cell? ⟨bk, off + k * 3 + 1, none⟩ = some (.int .i64 z.last))
              (first | exact hkeep _ hw8 | exact hkeep _ hw7 | exact hkeep _ hw6 | go_keep | fail)
              (first
              | (go_at_call_of 36 (Value.slice a' ys.length c'); refine (specPutInt_any a' c' ys z.tx _ (ho.reads.below (Below.refl _ _).drew) ho.nocap (by omega)).mono ?_; rintro e w6 ⟨a6, c6, y6, rfl, hy6, ho6, hb6⟩; have hw6 : Below wr.heap.size wr w6 := ((Below.refl wr.heap.size wr).drew).trans (hb6.mono (Nat.le_refl _)); have hl6 : y6.length ≤ 200000 := (by have := (putOf_len z.tx).2; rw [hy6, List.length_append]; omega); have HY6 : Hid (_ = _) := hy6; clear hy6)
              | (go_at_call_of 36 (Value.slice a6 y6.length c6); refine (specPutInt_any a6 c6 y6 z.last w6 ho6.reads ho6.nocap (by omega)).mono ?_; rintro e w7 ⟨a7, c7, y7, rfl, hy7, ho7, hb7⟩; have hw7 : Below wr.heap.size wr w7 := hw6.trans (hb7.mono hw6.size); have hl7 : y7.length ≤ 300000 := (by have := (putOf_len z.last).2; rw [hy7, List.length_append]; omega); have HY7 : Hid (_ = _) := hy7; clear hy7)
              | (go_at_call_of 36 (Value.slice a7 y7.length c7); refine (specPutInt_any a7 c7 y7 0 w7 ho7.reads ho7.nocap (by omega)).mono ?_; rintro e w8 ⟨a8, c8, y8, rfl, hy8, ho8, hb8⟩; have hw8 : Below wr.heap.size wr w8 := hw7.trans (hb8.mono hw7.size); have HY8 : Hid (_ = _) := hy8; clear hy8)
              | fail)
            all_goals
              have HY9 : Hid (y8 = H ++ (r.txs.take (k + 1)).flatMap putLive) := by rw [Hid, HY8.out, HY7.out, HY6.out, hy.out, HF2.out]; simp only [List.append_assoc]
              go_wp2_with fail
              go_roundw
              case rel => exact ⟨a8, c8, y8, k + 1, rfl, by go_num, by omega, HY9, ho8.base (Nat.le_trans hbl.size hw7.size), hbx.trans (hw8.mono hbx.size)⟩
              case measure => simp [intOf]; omega
          | true =>
            have HF2 : Hid ((r.txs.take (k + 1)).flatMap putLive = (r.txs.take k).flatMap putLive ++ ((putOf z.tx ++ putOf z.last) ++ putOf 1)) := by rw [Hid, HF.out, putLive, hza]; rfl
            rw [hza] at d2
            clear HF
            go_wp2_with fail
            go_region_held3 (fun u => u.cell? ⟨w.heap.size, 14, none⟩ = some (.slice (some ⟨bk, off, none⟩) r.txs.length r.cL) ∧ u.cell? ⟨bk, off + k * 3, none⟩ = some (.int .i64 z.tx) ∧ u.cell? ⟨bk, off + k * 3 + 1, none⟩ = some (.int .i64 z.last))
              (first | exact hkeep _ hw8 | exact hkeep _ hw7 | exact hkeep _ hw6 | go_keep | fail)
              (first
              | (go_at_call_of 36 (Value.slice a' ys.length c'); refine (specPutInt_any a' c' ys z.tx _ (ho.reads.below (Below.refl _ _).drew) ho.nocap (by omega)).mono ?_; rintro e w6 ⟨a6, c6, y6, rfl, hy6, ho6, hb6⟩; have hw6 : Below wr.heap.size wr w6 := ((Below.refl wr.heap.size wr).drew).trans (hb6.mono (Nat.le_refl _)); have hl6 : y6.length ≤ 200000 := (by have := (putOf_len z.tx).2; rw [hy6, List.length_append]; omega); have HY6 : Hid (_ = _) := hy6; clear hy6)
              | (go_at_call_of 36 (Value.slice a6 y6.length c6); refine (specPutInt_any a6 c6 y6 z.last w6 ho6.reads ho6.nocap (by omega)).mono ?_; rintro e w7 ⟨a7, c7, y7, rfl, hy7, ho7, hb7⟩; have hw7 : Below wr.heap.size wr w7 := hw6.trans (hb7.mono hw6.size); have hl7 : y7.length ≤ 300000 := (by have := (putOf_len z.last).2; rw [hy7, List.length_append]; omega); have HY7 : Hid (_ = _) := hy7; clear hy7)
              | (go_at_call_of 36 (Value.slice a7 y7.length c7); refine (specPutInt_any a7 c7 y7 1 w7 ho7.reads ho7.nocap (by omega)).mono ?_; rintro e w8 ⟨a8, c8, y8, rfl, hy8, ho8, hb8⟩; have hw8 : Below wr.heap.size wr w8 := hw7.trans (hb8.mono hw7.size); have HY8 : Hid (_ = _) := hy8; clear hy8)
              | fail)
            all_goals
              have HY9 : Hid (y8 = H ++ (r.txs.take (k + 1)).flatMap putLive) := by rw [Hid, HY8.out, HY7.out, HY6.out, hy.out, HF2.out]; simp only [List.append_assoc]
              go_wp2_with fail
              go_roundw
              case rel => exact ⟨a8, c8, y8, k + 1, rfl, by go_num, by omega, HY9, ho8.base (Nat.le_trans hbl.size hw7.size), hbx.trans (hw8.mono hbx.size)⟩
              case measure => simp [intOf]; omega
        · have HE : Hid (ys = R) := by rw [Hid, hy.out, HRR.out, List.take_of_length_le (by omega)]
          go_wp2
          go_ret
          exact ⟨a', c', ys, rfl, HE, ho, hbl⟩
end Go.Proofs.YtickiokdcbeefaaGreatDoor

/- The walk of laws.toPage. -/
namespace Go.Proofs.YtickiokdcbeefaaGreatDoor
open Go.RowKit

end Go.Proofs.YtickiokdcbeefaaGreatDoor

/- Records: what the landed code asks of one, and reads of bytes; it is what the model does. -/
namespace Go.Proofs.YtickiokdcbeefaaGreatDoor
open Go.RowKit

theorem liveOk_bd {lsn : Int} {ls : List LiveV} {k : Nat} (h : liveOk lsn ls k = true) : (1 ≤ (ls.getD k zeroL).tx ∧ (ls.getD k zeroL).tx ≤ 1000) ∧ (1 ≤ (ls.getD k zeroL).last ∧ (ls.getD k zeroL).last < lsn) := by
  cases k with
  | zero => simp only [liveOk, inB, Bool.and_eq_true, decide_eq_true_eq] at h; omega
  | succ k => simp only [liveOk, inB, Bool.and_eq_true, decide_eq_true_eq] at h; omega
theorem livesB_bd {lsn : Int} {ls : List LiveV} (h : livesB lsn ls = true) : ls.length ≤ 20 ∧ ∀ t ∈ ls, (1 ≤ t.tx ∧ t.tx ≤ 1000) ∧ (1 ≤ t.last ∧ t.last < lsn) := by
  simp only [livesB, Bool.and_eq_true, List.all_eq_true, List.mem_range, decide_eq_true_eq] at h
  refine ⟨h.2, fun t ht => ?_⟩
  obtain ⟨k, hk, e⟩ := List.getElem_of_mem ht
  have := liveOk_bd (h.1 k hk)
  rw [show ls.getD k zeroL = t by simp [List.getD, hk, e]] at this
  exact this
structure Bd (r : RecV) : Prop where
  lsn : 1 ≤ r.lsn ∧ r.lsn ≤ 1000000
  bf : slotB r.bf = true
  af : slotB r.af = true
  tx : 0 ≤ r.tx ∧ r.tx ≤ 1000
  prev : 0 ≤ r.prev ∧ r.prev < r.lsn
  kind : 1 ≤ r.kind ∧ r.kind ≤ 6
  oid : 0 ≤ r.oid ∧ r.oid ≤ 31
  next : 0 ≤ r.next ∧ r.next < r.lsn
  txs : r.txs.length ≤ 20
  each : ∀ t ∈ r.txs, (1 ≤ t.tx ∧ t.tx ≤ 1000) ∧ (1 ≤ t.last ∧ t.last < r.lsn)
theorem okR_bd {r : RecV} (h : okR r = true) : Bd r := by
  have h20 := okR_txs h
  unfold okR at h
  simp only [Bool.and_eq_true] at h
  obtain ⟨h1, h2, h3, h4⟩ := h
  simp only [inB, decide_eq_true_eq] at h1
  have hno : ∀ a b c d, zeroB r a b c d false = true → ∀ t ∈ r.txs, (1 ≤ t.tx ∧ t.tx ≤ 1000) ∧ (1 ≤ t.last ∧ t.last < r.lsn) := by
    intro a b c d hz t ht
    simp only [zeroB, Bool.and_eq_true, Bool.false_or, decide_eq_true_eq] at hz
    have := List.length_eq_zero_iff.1 hz.2
    rw [this] at ht; cases ht
  split at h4
  · rename_i hk
    simp only [Bool.and_eq_true] at h4
    obtain ⟨hz, hl⟩ := h4
    obtain ⟨_, he⟩ := livesB_bd hl
    simp only [zeroB, Bool.and_eq_true, Bool.false_or, Bool.true_or, decide_eq_true_eq, beq_iff_eq] at hz hk
    exact ⟨h1, h2, h3, by omega, by omega, by omega, by omega, by omega, h20, he⟩
  · simp only [Bool.and_eq_true, inB, decide_eq_true_eq] at h4
    obtain ⟨h5, h6, h7⟩ := h4
    split at h7
    · rename_i hk
      simp only [Bool.and_eq_true, decide_eq_true_eq] at h7
      obtain ⟨hz, ho⟩ := h7
      have he := hno _ _ _ _ hz
      simp only [zeroB, Bool.and_eq_true, Bool.false_or, Bool.true_or, decide_eq_true_eq, beq_iff_eq] at hz hk
      exact ⟨h1, h2, h3, by omega, by omega, by omega, by omega, by omega, h20, he⟩
    · split at h7
      · rename_i hk
        simp only [Bool.and_eq_true, decide_eq_true_eq] at h7
        obtain ⟨hz, ho, hx⟩ := h7
        have he := hno _ _ _ _ hz
        simp only [beq_iff_eq] at hk
        exact ⟨h1, h2, h3, by omega, by omega, by omega, by omega, by omega, h20, he⟩
      · have fin : zeroB r true false false false false = true → (1 ≤ r.kind ∧ r.kind ≤ 6) → Bd r := fun hz hk => by
          have he := hno _ _ _ _ hz
          simp only [zeroB, Bool.and_eq_true, Bool.false_or, Bool.true_or, decide_eq_true_eq] at hz
          exact ⟨h1, h2, h3, by omega, by omega, by omega, by omega, by omega, h20, he⟩
        split at h7
        · rename_i hk; exact fin h7 (by simp only [beq_iff_eq] at hk; omega)
        · split at h7
          · rename_i hk; exact fin h7 (by simp only [beq_iff_eq] at hk; omega)
          · split at h7
            · rename_i hk; exact fin h7 (by simp only [beq_iff_eq] at hk; omega)
            · cases h7

/-- One that is under way, at a place, and the place behind it. -/
def liveAt (zs : List Int) (p : Nat) : Option (LiveV × Nat) := match numsAt zs 3 p with
  | some ([a, b, f], q) => if f = 0 then some (⟨a, b, false⟩, q) else if f = 1 then some (⟨a, b, true⟩, q) else none
  | _ => none
def livesAt (zs : List Int) : Nat → Nat → Option (List LiveV × Nat)
  | 0, p => some ([], p)
  | k + 1, p => match liveAt zs p with
    | none => none
    | some (t, q) => match livesAt zs k q with
      | none => none
      | some (l, r) => some (t :: l, r)
/-- A number that says how many, and so many. -/
def countAt (zs : List Int) (p : Nat) : Option (List LiveV × Nat) := match getAt zs (p : Int) with
  | none => none
  | some (n, q) => if 0 ≤ n ∧ n ≤ 20 then livesAt zs n.toNat q else none
/-- A record of bytes, as the landed code reads it. -/
def readR (zs : List Int) : Option RecV := match numsAt zs 6 0 with
  | some ([n, t, v, k, o, x], p) => match slotAt zs p with
    | none => none
    | some (b, q) => match slotAt zs q with
      | none => none
      | some (a, s) => match countAt zs s with
        | none => none
        | some (l, e) => if e = zs.length then some ⟨n, t, v, k, o, b, a, x, l⟩ else none
  | _ => none

theorem liveAt_canon (zs : List Int) (hb : Bytes zs) (p : Nat) (t : LiveV) (q : Nat) (h : liveAt zs p = some (t, q)) (hp : p ≤ zs.length) : zs.drop p = putLive t ++ zs.drop q ∧ q ≤ zs.length := by
  unfold liveAt at h
  split at h
  · rename_i a b f r hn
    obtain ⟨_, hd, hq⟩ := numsAt_canon zs hb 3 p _ _ hn hp
    split at h
    · simp only [Option.some.injEq, Prod.mk.injEq] at h
      rename_i hf
      obtain ⟨rfl, rfl⟩ := h
      refine ⟨?_, hq⟩
      rw [hd, hf]
      simp [putLive]
    · split at h
      · simp only [Option.some.injEq, Prod.mk.injEq] at h
        rename_i hf
        obtain ⟨rfl, rfl⟩ := h
        refine ⟨?_, hq⟩
        rw [hd, hf]
        simp [putLive]
      · cases h
  · cases h
theorem livesAt_canon (zs : List Int) (hb : Bytes zs) (k : Nat) : ∀ (p : Nat) (l : List LiveV) (q : Nat), livesAt zs k p = some (l, q) → p ≤ zs.length → l.length = k ∧ zs.drop p = l.flatMap putLive ++ zs.drop q ∧ q ≤ zs.length := by
  induction k with
  | zero =>
    intro p l q h hp
    simp only [livesAt, Option.some.injEq, Prod.mk.injEq] at h
    obtain ⟨rfl, rfl⟩ := h
    exact ⟨rfl, by simp, hp⟩
  | succ k ih =>
    intro p l q h hp
    simp only [livesAt] at h
    split at h
    · cases h
    · rename_i t q1 h1
      obtain ⟨hd, hn⟩ := liveAt_canon zs hb p t q1 h1 hp
      split at h
      · cases h
      · rename_i l1 q2 h2
        simp only [Option.some.injEq, Prod.mk.injEq] at h
        obtain ⟨rfl, rfl⟩ := h
        obtain ⟨hl, hd2, h3⟩ := ih q1 l1 q2 h2 hn
        exact ⟨by simp [hl], by rw [hd, hd2]; simp, h3⟩
theorem countAt_canon (zs : List Int) (hb : Bytes zs) (p : Nat) (l : List LiveV) (q : Nat) (h : countAt zs p = some (l, q)) : zs.drop p = putOf l.length ++ l.flatMap putLive ++ zs.drop q ∧ q ≤ zs.length := by
  unfold countAt at h
  split at h
  · cases h
  · rename_i n r hg
    obtain ⟨hd, h1, h2⟩ := getAt_canon zs hb p n r hg
    split at h
    · rename_i hn
      obtain ⟨hl, hd2, h3⟩ := livesAt_canon zs hb _ r l q h h2
      refine ⟨?_, h3⟩
      rw [hd, hd2, show (l.length : Int) = n by omega]
      simp
    · cases h
theorem readR_canon (zs : List Int) (hb : Bytes zs) (r : RecV) (h : readR zs = some r) : zs = bodyR r := by
  unfold readR at h
  split at h
  · rename_i n t v k o x p hn
    obtain ⟨_, hd, hp⟩ := numsAt_canon zs hb 6 0 _ _ hn (Nat.zero_le _)
    rw [List.drop_zero] at hd
    split at h
    · cases h
    · rename_i b q h1
      obtain ⟨_, hd1, hq⟩ := slotAt_canon zs hb p b q h1
      split at h
      · cases h
      · rename_i a s h2
        obtain ⟨_, hd2, hs⟩ := slotAt_canon zs hb q a s h2
        split at h
        · cases h
        · rename_i l e h3
          obtain ⟨hd3, he⟩ := countAt_canon zs hb s l e h3
          split at h
          · rename_i hee
            simp only [Option.some.injEq] at h
            subst h
            conv => lhs; rw [hd, hd1, hd2, hd3, hee, List.drop_length]
            simp [bodyR, headR]
          · cases h
  · cases h
theorem readR_slots (zs : List Int) (hb : Bytes zs) (r : RecV) (h : readR zs = some r) : slotB r.bf = true ∧ slotB r.af = true ∧ r.txs.length ≤ 20 := by
  unfold readR at h
  split at h
  · rename_i n t v k o x p hn
    split at h
    · cases h
    · rename_i b q h1
      obtain ⟨hb1, _, hq⟩ := slotAt_canon zs hb p b q h1
      split at h
      · cases h
      · rename_i a s h2
        obtain ⟨hb2, _, hs⟩ := slotAt_canon zs hb q a s h2
        split at h
        · cases h
        · rename_i l e h3
          split at h
          · simp only [Option.some.injEq] at h
            subst h
            refine ⟨hb1, hb2, ?_⟩
            unfold countAt at h3
            split at h3
            · cases h3
            · rename_i n r hg
              obtain ⟨_, _, h2⟩ := getAt_canon zs hb s n r hg
              split at h3
              · rename_i hn
                obtain ⟨hl, _⟩ := livesAt_canon zs hb _ r l e h3 h2
                simp only
                omega
              · cases h3
          · cases h
  · cases h

theorem liveAt_back (pre rest : List Int) (t : LiveV) (h : (1 ≤ t.tx ∧ t.tx ≤ 1000) ∧ (1 ≤ t.last ∧ t.last < 1000000)) : liveAt (pre ++ putLive t ++ rest) pre.length = some (t, (pre ++ putLive t).length) := by
  obtain ⟨a, b, f⟩ := t
  have e : putLive ⟨a, b, f⟩ = [a, b, if f then 1 else 0].flatMap putOf := by simp [putLive]
  simp only at h
  have := numsAt_back [a, b, if f then 1 else 0] pre rest (by
    intro z hz
    simp only [List.mem_cons, List.not_mem_nil, or_false] at hz
    rcases hz with rfl | rfl | rfl
    · omega
    · omega
    · split <;> omega)
  rw [e]
  unfold liveAt
  rw [show (3 : Nat) = [a, b, if f then (1 : Int) else 0].length from rfl, this]
  cases f <;> simp
theorem livesAt_back (l : List LiveV) : ∀ (pre rest : List Int), (∀ t ∈ l, (1 ≤ t.tx ∧ t.tx ≤ 1000) ∧ (1 ≤ t.last ∧ t.last < 1000000)) → livesAt (pre ++ l.flatMap putLive ++ rest) l.length pre.length = some (l, (pre ++ l.flatMap putLive).length) := by
  induction l with
  | nil => intro pre rest _; simp [livesAt]
  | cons z r ih =>
    intro pre rest h
    have hz := h z (by simp)
    have e : pre ++ (z :: r).flatMap putLive ++ rest = (pre ++ putLive z) ++ r.flatMap putLive ++ rest := by simp
    have e2 : pre ++ (z :: r).flatMap putLive ++ rest = pre ++ putLive z ++ (r.flatMap putLive ++ rest) := by simp
    rw [List.length_cons, livesAt, e2, liveAt_back pre _ z hz]
    simp only
    rw [← e2, e, ih (pre ++ putLive z) rest (fun y hy => h y (by simp [hy]))]
    simp
theorem readR_eq {zs : List Int} {n t v k o x : Int} {p q s : Nat} {b a : SlotV} {l : List LiveV} (h0 : numsAt zs 6 0 = some ([n, t, v, k, o, x], p)) (h1 : slotAt zs p = some (b, q)) (h2 : slotAt zs q = some (a, s)) (h3 : countAt zs s = some (l, zs.length)) : readR zs = some ⟨n, t, v, k, o, b, a, x, l⟩ := by
  unfold readR
  rw [h0]; simp only
  rw [h1]; simp only
  rw [h2]; simp only
  rw [h3]; simp only
  rw [if_pos trivial]
theorem readR_back (r : RecV) (h : okR r = true) : readR (bodyR r) = some r := by
  have d := okR_bd h
  have e0 : bodyR r = [] ++ (headR r).flatMap putOf ++ (putSlotOf r.bf ++ putSlotOf r.af ++ putOf r.txs.length ++ r.txs.flatMap putLive) := by simp [bodyR]
  have h0 := numsAt_back (headR r) [] (putSlotOf r.bf ++ putSlotOf r.af ++ putOf r.txs.length ++ r.txs.flatMap putLive) (by
    intro z hz
    simp only [headR, List.mem_cons, List.not_mem_nil, or_false] at hz
    have := d.lsn; have := d.tx; have := d.prev; have := d.kind; have := d.oid; have := d.next
    rcases hz with rfl | rfl | rfl | rfl | rfl | rfl <;> omega)
  rw [← e0] at h0
  have e1 : bodyR r = (headR r).flatMap putOf ++ putSlotOf r.bf ++ (putSlotOf r.af ++ putOf r.txs.length ++ r.txs.flatMap putLive) := by simp [bodyR]
  have h1 := slotAt_back ((headR r).flatMap putOf) (putSlotOf r.af ++ putOf r.txs.length ++ r.txs.flatMap putLive) r.bf d.bf
  rw [← e1] at h1
  have e2 : bodyR r = ((headR r).flatMap putOf ++ putSlotOf r.bf) ++ putSlotOf r.af ++ (putOf r.txs.length ++ r.txs.flatMap putLive) := by simp [bodyR]
  have h2 := slotAt_back ((headR r).flatMap putOf ++ putSlotOf r.bf) (putOf r.txs.length ++ r.txs.flatMap putLive) r.af d.af
  rw [← e2] at h2
  have e3 : bodyR r = ((headR r).flatMap putOf ++ putSlotOf r.bf ++ putSlotOf r.af) ++ putOf r.txs.length ++ r.txs.flatMap putLive := by simp [bodyR]
  have d20 := d.txs
  have h3 := getAt_back ((headR r).flatMap putOf ++ putSlotOf r.bf ++ putSlotOf r.af) (r.txs.flatMap putLive) (r.txs.length : Int) (by omega)
  rw [← e3] at h3
  have e4 : bodyR r = (((headR r).flatMap putOf ++ putSlotOf r.bf ++ putSlotOf r.af) ++ putOf r.txs.length) ++ r.txs.flatMap putLive ++ [] := by simp [bodyR]
  have h4 := livesAt_back r.txs (((headR r).flatMap putOf ++ putSlotOf r.bf ++ putSlotOf r.af) ++ putOf r.txs.length) [] (fun t ht => by have := d.each t ht; have := d.lsn; omega)
  rw [← e4] at h4
  have hc : countAt (bodyR r) ((headR r).flatMap putOf ++ putSlotOf r.bf ++ putSlotOf r.af).length = some (r.txs, (bodyR r).length) := by
    unfold countAt
    rw [h3]
    simp only
    rw [if_pos (by omega), Int.toNat_natCast, h4]
    conv => rhs; rw [e4]
    simp
  exact readR_eq (n := r.lsn) (t := r.tx) (v := r.prev) (k := r.kind) (o := r.oid) (x := r.next) h0 h1 h2 hc

/-- The model's reader: one that is under way. -/
def liveNext (zs : List Int) (s : Int × Bool) : LiveV × (Int × Bool) :=
  (⟨(nextOf zs s).1, (nextOf zs (nextOf zs s).2).1, (nextOf zs (nextOf zs (nextOf zs s).2).2).1 == 1⟩, (nextOf zs (nextOf zs (nextOf zs s).2).2).2)
def livesOf (zs : List Int) : Nat → List LiveV → Int × Bool → List LiveV × (Int × Bool)
  | 0, l, s => (l, s)
  | k + 1, l, s => if s.2 then (l, s) else livesOf zs k (l ++ [(liveNext zs s).1]) (liveNext zs s).2
/-- The reader behind so many numbers. -/
def stR (zs : List Int) : Nat → Int × Bool
  | 0 => (0, false)
  | k + 1 => (nextOf zs (stR zs k)).2
def valR (zs : List Int) (k : Nat) : Int := (nextOf zs (stR zs k)).1
def sB (zs : List Int) : SlotV × (Int × Bool) := nextSlotOf zs (stR zs 6)
def sA (zs : List Int) : SlotV × (Int × Bool) := nextSlotOf zs (sB zs).2
def sN (zs : List Int) : Int × (Int × Bool) := nextOf zs (sA zs).2
def sL (zs : List Int) : List LiveV × (Int × Bool) := livesOf zs (min (sN zs).1.toNat 30) [] (sN zs).2
def recR (zs : List Int) : RecV := ⟨valR zs 0, valR zs 1, valR zs 2, valR zs 3, valR zs 4, (sB zs).1, (sA zs).1, valR zs 5, (sL zs).1⟩

theorem liveNext_back (pre rest : List Int) (t : LiveV) (h : (1 ≤ t.tx ∧ t.tx ≤ 1000) ∧ (1 ≤ t.last ∧ t.last < 1000000)) : liveNext (pre ++ putLive t ++ rest) ((pre.length : Int), false) = (t, (((pre ++ putLive t).length : Int), false)) := by
  obtain ⟨a, b, f⟩ := t
  simp only at h
  have hf : -1000000 ≤ (if f then (1 : Int) else 0) ∧ (if f then (1 : Int) else 0) ≤ 1000000 := by split <;> omega
  have e1 : pre ++ putLive ⟨a, b, f⟩ ++ rest = pre ++ putOf a ++ (putOf b ++ putOf (if f then 1 else 0) ++ rest) := by simp [putLive]
  have e2 : pre ++ putLive ⟨a, b, f⟩ ++ rest = (pre ++ putOf a) ++ putOf b ++ (putOf (if f then 1 else 0) ++ rest) := by simp [putLive]
  have e3 : pre ++ putLive ⟨a, b, f⟩ ++ rest = (pre ++ putOf a ++ putOf b) ++ putOf (if f then 1 else 0) ++ rest := by simp [putLive]
  have n1 := next_back pre (putOf b ++ putOf (if f then 1 else 0) ++ rest) a (by omega)
  have n2 := next_back (pre ++ putOf a) (putOf (if f then 1 else 0) ++ rest) b (by omega)
  have n3 := next_back (pre ++ putOf a ++ putOf b) rest (if f then 1 else 0) hf
  rw [← e1] at n1
  rw [← e2] at n2
  rw [← e3] at n3
  unfold liveNext
  rw [n1]; simp only
  rw [n2]; simp only
  rw [n3]
  cases f <;> simp [putLive]
theorem livesOf_back (l : List LiveV) : ∀ (pre rest : List Int) (acc : List LiveV), (∀ t ∈ l, (1 ≤ t.tx ∧ t.tx ≤ 1000) ∧ (1 ≤ t.last ∧ t.last < 1000000)) → livesOf (pre ++ l.flatMap putLive ++ rest) l.length acc ((pre.length : Int), false) = (acc ++ l, (((pre ++ l.flatMap putLive).length : Int), false)) := by
  induction l with
  | nil => intro pre rest acc _; simp [livesOf]
  | cons z r ih =>
    intro pre rest acc h
    have hz := h z (by simp)
    have e : pre ++ (z :: r).flatMap putLive ++ rest = (pre ++ putLive z) ++ r.flatMap putLive ++ rest := by simp
    have e2 : pre ++ (z :: r).flatMap putLive ++ rest = pre ++ putLive z ++ (r.flatMap putLive ++ rest) := by simp
    rw [List.length_cons, livesOf, e2, liveNext_back pre _ z hz]
    simp only [Bool.false_eq_true, if_false]
    rw [← e2, e, ih (pre ++ putLive z) rest _ (fun y hy => h y (by simp [hy]))]
    simp
theorem stR_back (l : List Int) (rest : List Int) (h : ∀ z ∈ l, -1000000 ≤ z ∧ z ≤ 1000000) : ∀ k, k ≤ l.length → stR (l.flatMap putOf ++ rest) k = ((((l.take k).flatMap putOf).length : Int), false) := by
  intro k
  induction k with
  | zero => intro _; simp [stR]
  | succ k ih =>
    intro hk
    have hi := ih (by omega)
    have hz : l.getD k 0 ∈ l := by simp [List.getD, show k < l.length by omega]
    have e : l.flatMap putOf ++ rest = (l.take k).flatMap putOf ++ putOf (l.getD k 0) ++ ((l.drop (k + 1)).flatMap putOf ++ rest) := by
      conv => lhs; rw [← List.take_append_drop (k + 1) l]
      rw [List.flatMap_append, flatI_step l k (by omega)]
      simp
    have n := next_back ((l.take k).flatMap putOf) ((l.drop (k + 1)).flatMap putOf ++ rest) (l.getD k 0) (h _ hz)
    rw [← e] at n
    rw [stR, hi, n, flatI_step l k (by omega)]
theorem valR_back (l : List Int) (rest : List Int) (h : ∀ z ∈ l, -1000000 ≤ z ∧ z ≤ 1000000) (k : Nat) (hk : k < l.length) : valR (l.flatMap putOf ++ rest) k = l.getD k 0 := by
  have hi := stR_back l rest h k (by omega)
  have hz : l.getD k 0 ∈ l := by simp [List.getD, hk]
  have e : l.flatMap putOf ++ rest = (l.take k).flatMap putOf ++ putOf (l.getD k 0) ++ ((l.drop (k + 1)).flatMap putOf ++ rest) := by
    conv => lhs; rw [← List.take_append_drop (k + 1) l]
    rw [List.flatMap_append, flatI_step l k hk]
    simp
  have n := next_back ((l.take k).flatMap putOf) ((l.drop (k + 1)).flatMap putOf ++ rest) (l.getD k 0) (h _ hz)
  rw [← e] at n
  rw [valR, hi, n]
theorem recR_back (r : RecV) (h : okR r = true) : recR (bodyR r) = r ∧ (sL (bodyR r)).2.2 = false := by
  have d := okR_bd h
  have hz : ∀ z ∈ headR r, -1000000 ≤ z ∧ z ≤ 1000000 := by
    intro z hz
    simp only [headR, List.mem_cons, List.not_mem_nil, or_false] at hz
    have := d.lsn; have := d.tx; have := d.prev; have := d.kind; have := d.oid; have := d.next
    rcases hz with rfl | rfl | rfl | rfl | rfl | rfl <;> omega
  have e0 : bodyR r = (headR r).flatMap putOf ++ (putSlotOf r.bf ++ putSlotOf r.af ++ putOf r.txs.length ++ r.txs.flatMap putLive) := by simp [bodyR]
  have h6 := stR_back (headR r) (putSlotOf r.bf ++ putSlotOf r.af ++ putOf r.txs.length ++ r.txs.flatMap putLive) hz 6 (Nat.le_refl _)
  have hv := valR_back (headR r) (putSlotOf r.bf ++ putSlotOf r.af ++ putOf r.txs.length ++ r.txs.flatMap putLive) hz
  rw [← e0] at h6 hv
  rw [show (headR r).take 6 = headR r from rfl] at h6
  have e1 : bodyR r = (headR r).flatMap putOf ++ putSlotOf r.bf ++ (putSlotOf r.af ++ putOf r.txs.length ++ r.txs.flatMap putLive) := by simp [bodyR]
  have h1 := nextSlot_back ((headR r).flatMap putOf) (putSlotOf r.af ++ putOf r.txs.length ++ r.txs.flatMap putLive) r.bf d.bf
  rw [← e1] at h1
  have hB := (congrArg (nextSlotOf (bodyR r)) h6).trans h1
  change sB (bodyR r) = _ at hB
  have e2 : bodyR r = ((headR r).flatMap putOf ++ putSlotOf r.bf) ++ putSlotOf r.af ++ (putOf r.txs.length ++ r.txs.flatMap putLive) := by simp [bodyR]
  have h2 := nextSlot_back ((headR r).flatMap putOf ++ putSlotOf r.bf) (putOf r.txs.length ++ r.txs.flatMap putLive) r.af d.af
  rw [← e2] at h2
  have hA := (congrArg (fun z => nextSlotOf (bodyR r) z.2) hB).trans h2
  change sA (bodyR r) = _ at hA
  have e3 : bodyR r = ((headR r).flatMap putOf ++ putSlotOf r.bf ++ putSlotOf r.af) ++ putOf r.txs.length ++ r.txs.flatMap putLive := by simp [bodyR]
  have d20 := d.txs
  have h3 := next_back ((headR r).flatMap putOf ++ putSlotOf r.bf ++ putSlotOf r.af) (r.txs.flatMap putLive) (r.txs.length : Int) (by omega)
  rw [← e3] at h3
  have hN := (congrArg (fun z => nextOf (bodyR r) z.2) hA).trans h3
  change sN (bodyR r) = _ at hN
  have e4 : bodyR r = (((headR r).flatMap putOf ++ putSlotOf r.bf ++ putSlotOf r.af) ++ putOf r.txs.length) ++ r.txs.flatMap putLive ++ [] := by simp [bodyR]
  have h4 := livesOf_back r.txs (((headR r).flatMap putOf ++ putSlotOf r.bf ++ putSlotOf r.af) ++ putOf r.txs.length) [] [] (fun t ht => by have := d.each t ht; have := d.lsn; omega)
  rw [← e4] at h4
  have hm : min (r.txs.length : Int).toNat 30 = r.txs.length := by rw [Int.toNat_natCast]; exact Nat.min_eq_left (by omega)
  have hL : sL (bodyR r) = livesOf (bodyR r) r.txs.length [] ((((headR r).flatMap putOf ++ putSlotOf r.bf ++ putSlotOf r.af ++ putOf r.txs.length).length : Int), false) := by
    unfold sL
    rw [hN]
    simp only [hm]
  rw [h4] at hL
  constructor
  · unfold recR
    rw [hv 0 (show 0 < 6 by decide), hv 1 (show 1 < 6 by decide), hv 2 (show 2 < 6 by decide), hv 3 (show 3 < 6 by decide), hv 4 (show 4 < 6 by decide), hv 5 (show 5 < 6 by decide), hB, hA, hL]
    rfl
  · rw [hL]

/-- The record whose bytes these are, as the model finds it. -/
def getR (zs : List Int) : Option RecV := if (sL zs).2.2 = false ∧ okR (recR zs) = true ∧ putRecOf (recR zs) = zs then some (recR zs) else none
def noR : RecV := ⟨0, 0, 0, 0, 0, noS, noS, 0, []⟩
def pairR (zs : List Int) : RecV × Bool := match getR zs with
  | some x => (x, true)
  | none => (noR, false)
theorem getR_some {zs : List Int} {r : RecV} (h1 : okR r = true) (h2 : putRecOf r = zs) : getR zs = some r := by
  have e : bodyR r = zs := by rw [← h2, putRec_ok h1]
  obtain ⟨h3, h4⟩ := recR_back r h1
  rw [e] at h3 h4
  unfold getR
  rw [if_pos ⟨h4, by rw [h3]; exact h1, by rw [h3]; exact h2⟩, h3]
theorem getR_none {zs : List Int} (h : ¬ ∃ r, okR r = true ∧ putRecOf r = zs) : getR zs = none := by
  unfold getR
  rw [if_neg]
  rintro ⟨_, h1, h2⟩
  exact h ⟨_, h1, h2⟩
/-- The landed code finds the same. -/
theorem pairR_none {zs : List Int} (h : readR zs = none) : pairR zs = (noR, false) := by
  have : getR zs = none := getR_none (by
    rintro ⟨r, h1, h2⟩
    rw [putRec_ok h1] at h2
    rw [← h2, readR_back r h1] at h
    cases h)
  unfold pairR; rw [this]
theorem pairR_wrong {zs : List Int} {r : RecV} (h : readR zs = some r) (hok : okR r = false) : pairR zs = (noR, false) := by
  have : getR zs = none := getR_none (by
    rintro ⟨r', h1, h2⟩
    rw [putRec_ok h1] at h2
    rw [← h2, readR_back r' h1] at h
    simp only [Option.some.injEq] at h
    subst h
    rw [h1] at hok
    cases hok)
  unfold pairR; rw [this]
theorem pairR_some {zs : List Int} (hb : Bytes zs) {r : RecV} (h : readR zs = some r) (hok : okR r = true) : pairR zs = (r, true) := by
  have hc := readR_canon zs hb r h
  have : getR zs = some r := getR_some hok (by rw [putRec_ok hok]; exact hc.symm)
  unfold pairR; rw [this]
end Go.Proofs.YtickiokdcbeefaaGreatDoor

/- The walk of impl.SameObj. -/
namespace Go.Proofs.YtickiokdcbeefaaGreatDoor
open Go.RowKit

set_option maxHeartbeats 400000 in
theorem equalInts_any (a b : Option Addr) (ca cb : Nat) (xs ys : List Int) (w : World) (ha : ReadsI w a xs) (hb : ReadsI w b ys) (hl : xs.length ≤ 1099511627776) (hl2 : ys.length ≤ 1099511627776) :
    Calls Tryz.prog 117 #[.slice a xs.length ca, .slice b ys.length cb] w fun e w' => e = .returned (.bool (decide (xs = ys))) ∧ ∃ n, w' = w.drewN n := by
  by_cases hle : xs.length = ys.length
  case neg =>
    have HE : Hid (_ = _) := ne_len hle
    have hle' : ((xs.length : Int) == (ys.length : Int)) = false := by simp; omega
    go_enter Tryz.func117, Tryz.ntmps117
    go_wp2
    go_ret
    exact ⟨ret_bool HE.out.symm, 0, rfl⟩
  case pos =>
  have HL : Hid (xs.length = ys.length) := hle
  have hle' : ((xs.length : Int) == (ys.length : Int)) = true := by simp; omega
  rcases ha.cases with rfl | ⟨b1, o1, rfl, hpos, hc1⟩
  · obtain rfl : ys = [] := List.length_eq_zero_iff.1 (by simpa using hle.symm)
    have HE : Hid (decide (([] : List Int) = []) = true) := by simp [Hid]
    clear hle hle' HL
    go_enter Tryz.func117, Tryz.ntmps117
    go_wp2
    refine wp_loop_rounds 1 ?_
    rw [rounds_succ]
    go_wp2
    go_ret
    exact ⟨ret_bool HE.out.symm, 0, rfl⟩
  · rcases hb.cases with rfl | ⟨b2, o2, rfl, _, hc2⟩
    · simp at hle; simp [hle] at hpos
    · clear hle
      go_enter Tryz.func117, Tryz.ntmps117
      go_wp2
      go_loopw [13] (fun i wr => ∃ k : Nat, k ≤ xs.length ∧ i = .int .i64 k ∧ Hid (∀ t, t < k → xs.getD t 0 = ys.getD t 0) ∧ ∃ n, wr = w.drewN n) (fun i _ => xs.length - (intOf i).toNat)
      case atStart => exact ⟨0, Nat.zero_le _, rfl, fun t ht => by omega, 0, rfl⟩
      case round =>
        obtain ⟨k, hk, rfl, hall, n, rfl⟩ := hrel
        by_cases hlt : k < xs.length
        · have h1 := hc1 k hlt
          have h2 := hc2 k (by have := HL.out; omega)
          have hlt2 : (k : Int) < (ys.length : Int) := by have := HL.out; omega
          clear hc1 hc2
          by_cases hz : xs.getD k 0 = ys.getD k 0
          · have HN : Hid (∀ t, t < k + 1 → xs.getD t 0 = ys.getD t 0) := by
              intro t ht
              by_cases e : t = k
              · rw [e]; exact hz
              · exact hall.out t (by omega)
            rw [← hz] at h2
            clear hz
            generalize xs.getD k 0 = z at *
            go_wp2
            go_quiet (fail)
            go_wp2
            go_roundw
            case rel => exact ⟨k + 1, by omega, by go_num, HN, _, rfl⟩
            case measure => simp [intOf]; omega
          · have HE : Hid (_ = _) := ne_at k hz
            have hzb : (xs.getD k 0 == ys.getD k 0) = false := by simpa using hz
            clear hz
            generalize xs.getD k 0 = z at *
            generalize ys.getD k 0 = y at *
            go_wp2
            go_quiet (fail)
            go_wp2
            go_ret
            exact ⟨ret_bool HE.out.symm, n + nq, by first | rfl | simp⟩
        · have HE : Hid (_ = _) := eq_all HL.out (fun t ht => hall.out t (by omega))
          go_wp2
          go_ret
          exact ⟨ret_bool HE.out.symm, n, rfl⟩

set_option maxHeartbeats 1000000 in
set_option maxRecDepth 100000 in
theorem implSameObj_any (o p : ObjV) (aI : Option Addr) (cI : Nat) (aR : Option Addr) (cR : Nat) (bI : Option Addr) (dI : Nat) (bR : Option Addr) (dR : Nat) (w : World) (ha : ReadsO w aI cI aR cR o) (hb : ReadsO w bI dI bR dR p) (h1 : o.ints.length ≤ 1099511627776) (h2 : o.refs.length ≤ 1099511627776) (h3 : p.ints.length ≤ 1099511627776) (h4 : p.refs.length ≤ 1099511627776) :
    Calls Tryz.prog 102 #[.agg #[.int .i64 o.kind, .slice aI o.ints.length cI, .slice aR o.refs.length cR], .agg #[.int .i64 p.kind, .slice bI p.ints.length dI, .slice bR p.refs.length dR]] w fun e w' => e = .returned (.bool (sameO o p)) ∧ Below w.heap.size w w' := by
  obtain ⟨k, ints, refs⟩ := o
  obtain ⟨k', ints', refs'⟩ := p
  obtain ⟨haI, haR, _, _⟩ := ha
  obtain ⟨hbI, hbR, _, _⟩ := hb
  simp only at *
  obtain ⟨W, hW, b0, b1, hbW, hsW⟩ := boxes2 w [.int .i64 k, .slice aI ints.length cI, .slice aR refs.length cR] [.int .i64 k', .slice bI ints'.length dI, .slice bR refs'.length dR] 37 37
  by_cases hk : k = k'
  case neg =>
    have HE : Hid (sameO ⟨k, ints, refs⟩ ⟨k', ints', refs'⟩ = false) := by simp [Hid, sameO, hk]
    have hkb : (k == k') = false := by simpa using hk
    clear hk
    go_enter Tryz.func102, Tryz.ntmps102
    go_wp2
    go_ret
    exact ⟨ret_bool HE.out.symm, by rw [hW.out]; exact hbW⟩
  case pos =>
  subst hk
  have HE : Hid (sameO ⟨k, ints, refs⟩ ⟨k, ints', refs'⟩ = (decide (ints = ints') && decide (refs = refs'))) := by simp [Hid, sameO]
  go_enter Tryz.func102, Tryz.ntmps102
  go_wp2_with fail
  rw [hW.out]
  refine (equalInts_any aI bI cI dI ints ints' W (haI.below hbW) (hbI.below hbW) h1 h3).mono ?_
  rintro e w1 ⟨rfl, n1, rfl⟩
  have c0 := (b0.drewN n1).cell 2 _ rfl
  have c1 := (b1.drewN n1).cell 2 _ rfl
  have hb1 : Below w.heap.size w (W.drewN n1) := below_drewN hbW n1
  cases hd : decide (ints = ints') with
  | false =>
    rw [hd] at HE
    clear hd
    go_wp2
    go_ret
    exact ⟨ret_bool (by rw [HE.out]; rfl), hb1⟩
  | true =>
    rw [hd] at HE
    clear hd
    go_wp2_with fail
    refine (equalInts_any aR bR cR dR refs refs' (W.drewN n1) (haR.below hb1) (hbR.below hb1) h2 h4).mono ?_
    rintro e w2 ⟨rfl, n2, rfl⟩
    generalize decide (refs = refs') = D at *
    go_wp2
    go_ret
    exact ⟨ret_bool (by rw [HE.out]; rfl), below_drewN hbW (n1 + n2)⟩
end Go.Proofs.YtickiokdcbeefaaGreatDoor

/- Appending Lives that are read to a row that the call owns. -/
namespace Go.Proofs.YtickiokdcbeefaaGreatDoor
open Go.RowKit

theorem lives_oneCell (zs : List LiveV) : ∀ v ∈ cellsL zs, v.oneCell' = true := by
  intro v hv
  obtain ⟨s, _, hs⟩ := List.mem_flatMap.1 hv
  simp only [LiveV.cells, List.mem_cons, List.not_mem_nil, or_false] at hs
  rcases hs with rfl | rfl | rfl <;> rfl

theorem append_lives {w : World} {ops : Array Oper} {rest : List Oper} {o : Oper} {act : Act} {Q : Exit → Act → World → Prop} (hgd : o.guard = none) (s x : Operand)
    (ho : o.op = .call { callee := .builtin .append, args := #[s, x], argTypes := #[40, 40] })
    (lo hi : Nat) (a : Option Addr) (c : Nat) (xs : List LiveV) (hs : act.eval s = .slice a xs.length c) (hown : OwnL w lo hi a c xs)
    (sa : Option Addr) (sc : Nat) (zs : List LiveV) (hx : act.eval x = .slice sa zs.length sc) (hr : ReadsL w sa zs) (hc : sa = none → sc = 0)
    (hb : xs.length + zs.length ≤ 1099511627776) (hlo : lo ≤ w.heap.size)
    (h : ∀ a' c' ys w', Hid (ys = xs ++ zs) → OwnL w' lo w'.heap.size a' c' ys → w.grownBy w' (Value.slice a xs.length c).ownBlock → wpList Tryz.prog ops Q rest (act.put o.dst (.slice a' ys.length c')) w') :
    wpList Tryz.prog ops Q (o :: rest) act w := by
  obtain ⟨i0, hi0, hz0, hz1, hz2⟩ := info_parts Tryz.infoLive
  have fin : ∀ v' w', w'.ownsRow lo 62 3 v' (xs.length + zs.length) (cellsL xs ++ cellsL zs) → w.grownBy w' (Value.slice a xs.length c).ownBlock → wpList Tryz.prog ops Q rest (act.put o.dst v') w' := by
    intro v' w' h1 h2
    rw [← cellsL_app, ← List.length_append] at h1
    have sh : ∃ a' c', v' = .slice a' (xs ++ zs).length c' := by
      rcases h1.2 with ⟨rfl, h0⟩ | ⟨g, cap, cur, rfl, _⟩
      · exact ⟨none, 0, by rw [h0]⟩
      · exact ⟨_, _, rfl⟩
    obtain ⟨a', c', rfl⟩ := sh
    exact h a' c' (xs ++ zs) w' rfl ⟨h1, Nat.le_refl _, fun k hk => (h1.lt k hk).2⟩ h2
  cases sa with
  | none =>
    have hz : zs = [] := by
      by_cases e : zs = []
      · exact e
      · obtain ⟨b, off, hh, _⟩ := hr e
        cases hh
    subst hz
    have := hc rfl
    subst this
    exact wpList_append_own_none hgd s x 40 ho lo 62 i0 3 Tryz.underlying40 hi0 _ _ _ hs hown.1 hx (fin _ w (by simpa [cellsL] using hown.1) (World.grownBy.refl _ _))
  | some ad =>
    refine wpList_append_own w hgd s x 40 ho lo 62 i0 (.agg #[.int .i64 0, .int .i64 0, .bool false]) 3 24 Tryz.underlying40 hi0 hz0 hz1 hz2 rfl (by decide) _ _ _ hs hown.1 ad zs.length sc (cellsL zs) hx (by rw [cellsL_len]) ?_ (lives_oneCell _) (by simp only [maxLen]; omega) (by omega) hlo (fun v' w' h1 h2 _ => fin v' w' h1 h2)
    intro j u hj
    have hjl : j < zs.length * 3 := by rw [← cellsL_len]; exact (List.getElem?_eq_some_iff.1 hj).1
    have hne : zs ≠ [] := by intro e; simp [e] at hjl
    obtain ⟨b, off, hh, hcell⟩ := hr hne
    cases hh
    have hat := cellsL_at zs (j / 3) (j % 3) (by omega) (Nat.mod_lt _ (by omega))
    rw [show j / 3 * 3 + j % 3 = j by omega, hj] at hat
    obtain ⟨k0, k1, k2⟩ := hcell (j / 3) (by omega)
    rw [Addr_add]
    rcases (by omega : j % 3 = 0 ∨ j % 3 = 1 ∨ j % 3 = 2) with h' | h' | h' <;> rw [h'] at hat <;> simp only [LiveV.cells, List.getElem?_cons_zero, List.getElem?_cons_succ, Option.some.injEq] at hat
    · rw [show off + j = off + j / 3 * 3 by omega, k0, hat]
    · rw [show off + j = off + j / 3 * 3 + 1 by omega, k1, hat]
    · rw [show off + j = off + j / 3 * 3 + 2 by omega, k2, hat]
theorem readsL_one (w : World) (z : LiveV) (t : TypeId) : ReadsL (w.alloc (.cells #[.int .i64 z.tx, .int .i64 z.last, .bool z.aborts] t)) (some ⟨w.heap.size, 0, none⟩) [z] := by
  intro _
  refine ⟨w.heap.size, 0, rfl, fun k hk => ?_⟩
  obtain rfl : k = 0 := by simpa using hk
  have b : Box (w.alloc (.cells #[.int .i64 z.tx, .int .i64 z.last, .bool z.aborts] t)) w.heap.size [.int .i64 z.tx, .int .i64 z.last, .bool z.aborts] t := box_new _ _ _
  exact ⟨b.cell 0 _ rfl, b.cell 1 _ rfl, b.cell 2 _ rfl⟩
end Go.Proofs.YtickiokdcbeefaaGreatDoor

/- Rows of Holds: what they are, what a walk reads and owns of them. -/
namespace Go.Proofs.YtickiokdcbeefaaGreatDoor
open Go.RowKit

structure HoldV where
  tx : Int
  oid : Int
def HoldV.cells (l : HoldV) : List Value := [.int .i64 l.tx, .int .i64 l.oid]
def zeroH : HoldV := ⟨0, 0⟩
def cellsH (ls : List HoldV) : List Value := ls.flatMap HoldV.cells
theorem cellsH_len (ls : List HoldV) : (cellsH ls).length = ls.length * 2 := by
  induction ls with
  | nil => rfl
  | cons s r ih => simp only [cellsH, List.flatMap_cons, List.length_append, HoldV.cells, List.length_cons, List.length_nil] at *; omega
theorem cellsH_app (a b : List HoldV) : cellsH (a ++ b) = cellsH a ++ cellsH b := by simp [cellsH]
theorem cellsH_at (ls : List HoldV) (k j : Nat) (hk : k < ls.length) (hj : j < 2) : (cellsH ls)[k * 2 + j]? = (ls.getD k zeroH).cells[j]? := by
  induction ls generalizing k with
  | nil => simp at hk
  | cons s r ih =>
    have e : cellsH (s :: r) = s.cells ++ cellsH r := by simp [cellsH]
    have l3 : s.cells.length = 2 := rfl
    rw [e]
    cases k with
    | zero => rw [List.getElem?_append_left (by rw [l3]; omega)]; simp
    | succ k =>
      rw [List.getElem?_append_right (by rw [l3]; omega), l3]
      have := ih k (by simpa using hk)
      rw [show (k + 1) * 2 + j - 2 = k * 2 + j by omega, this]
      simp
/-- The slice at a reads these. -/
def ReadsH (w : World) (a : Option Addr) (ls : List HoldV) : Prop := ls ≠ [] → ∃ b off, a = some ⟨b, off, none⟩ ∧ ∀ k, k < ls.length → w.cell? ⟨b, off + k * 2, none⟩ = some (.int .i64 (ls.getD k zeroH).tx) ∧ w.cell? ⟨b, off + k * 2 + 1, none⟩ = some (.int .i64 (ls.getD k zeroH).oid)
theorem ReadsH.nil (w : World) (a : Option Addr) : ReadsH w a [] := fun h => absurd rfl h
theorem ReadsH.below {w w' : World} {a : Option Addr} {ls : List HoldV} (h : ReadsH w a ls) (hb : Below w.heap.size w w') : ReadsH w' a ls := by
  intro hne
  obtain ⟨b, off, ha, hc⟩ := h hne
  refine ⟨b, off, ha, fun k hk => ?_⟩
  obtain ⟨h0, h1⟩ := hc k hk
  have hlt := block_lt h0
  exact ⟨by rw [hb.cell (p := ⟨b, off + k * 2, none⟩) hlt]; exact h0, by rw [hb.cell (p := ⟨b, off + k * 2 + 1, none⟩) hlt]; exact h1⟩
theorem ReadsH.cases {w : World} {a : Option Addr} {ls : List HoldV} (h : ReadsH w a ls) : ls = [] ∨ ∃ b off, a = some ⟨b, off, none⟩ ∧ 0 < ls.length ∧ ∀ k, k < ls.length → w.cell? ⟨b, off + k * 2, none⟩ = some (.int .i64 (ls.getD k zeroH).tx) ∧ w.cell? ⟨b, off + k * 2 + 1, none⟩ = some (.int .i64 (ls.getD k zeroH).oid) := by
  by_cases e : ls = []
  · exact .inl e
  · obtain ⟨b, off, ha, hc⟩ := h e
    exact .inr ⟨b, off, ha, List.length_pos_iff.2 e, hc⟩

/-- The slice at a, of capacity c, owns these; its row lies from lo up to hi. -/
def OwnH (w : World) (lo hi : Nat) (a : Option Addr) (c : Nat) (ls : List HoldV) : Prop :=
  w.ownsRow lo 182 2 (.slice a ls.length c) ls.length (cellsH ls) ∧ hi ≤ w.heap.size ∧ ∀ k, (Value.slice a ls.length c).ownBlock = some k → k < hi
theorem OwnH.lt {w : World} {lo hi : Nat} {a : Option Addr} {c : Nat} {ls : List HoldV} (h : OwnH w lo hi a c ls) : ∀ k, (Value.slice a ls.length c).ownBlock = some k → lo ≤ k ∧ k < hi := fun k hk => ⟨(h.1.lt k hk).1, h.2.2 k hk⟩
theorem OwnH.touch {w w' : World} {lo hi : Nat} {a : Option Addr} {c : Nat} {ls : List HoldV} {bl : List Nat} (h : OwnH w lo hi a c ls) (ht : Touch bl w w') (hd : ∀ k, (Value.slice a ls.length c).ownBlock = some k → k ∉ bl) : OwnH w' lo hi a c ls :=
  ⟨ownsRow_block h.1 (fun k hk => ht.block k (h.1.lt k hk).2 (hd k hk)), Nat.le_trans h.2.1 ht.size, h.2.2⟩
theorem OwnH.within {w w' : World} {lo hi l r : Nat} {a : Option Addr} {c : Nat} {ls : List HoldV} (h : OwnH w lo hi a c ls) (hw : Within l r w w') (hd : hi ≤ l ∨ r ≤ lo) : OwnH w' lo hi a c ls :=
  ⟨ownsRow_block h.1 (fun k hk => hw.block k (by have := h.2.2 k hk; have := h.2.1; omega) (by have := h.lt k hk; omega)), Nat.le_trans h.2.1 hw.size, h.2.2⟩
theorem OwnH.below {w w' : World} {lo hi : Nat} {a : Option Addr} {c : Nat} {ls : List HoldV} (h : OwnH w lo hi a c ls) (hb : Below w.heap.size w w') : OwnH w' lo hi a c ls :=
  h.within (Within.of_below (lo := w.heap.size) (hi := w.heap.size) hb) (.inl h.2.1)
theorem OwnH.widen {w : World} {lo hi lo' hi' : Nat} {a : Option Addr} {c : Nat} {ls : List HoldV} (h : OwnH w lo hi a c ls) (h1 : lo' ≤ lo) (h2 : hi ≤ hi') (h3 : hi' ≤ w.heap.size) : OwnH w lo' hi' a c ls :=
  ⟨ownsRow_base h.1 (fun k hk => by have := h.lt k hk; omega), h3, fun k hk => by have := h.lt k hk; omega⟩
theorem ownH_nil (w : World) (lo hi : Nat) (h : hi ≤ w.heap.size) : OwnH w lo hi none 0 [] := ⟨⟨by simp [cellsH], .inl ⟨rfl, rfl⟩⟩, h, fun k hk => by cases hk⟩
theorem OwnH.nocap {w : World} {lo hi : Nat} {a : Option Addr} {c : Nat} {ls : List HoldV} (h : OwnH w lo hi a c ls) : a = none → c = 0 := by
  intro ha
  rcases h.1.2 with ⟨hv, _⟩ | ⟨g, cap, cur, hv, _⟩
  · simp only [Value.slice.injEq] at hv; exact hv.2.2
  · simp [ha] at hv
/-- The two cells of one of a row that lies in block g. -/
theorem row_hold {w : World} {base g n cap : Nat} {ls : List HoldV} (h : w.ownsRow base 182 2 (.slice (some ⟨g, 0, none⟩) n cap) n (cellsH ls)) (hn : ls.length = n) (k : Nat) (hk : k < n) :
    w.cell? ⟨g, k * 2, none⟩ = some (.int .i64 (ls.getD k zeroH).tx) ∧ w.cell? ⟨g, k * 2 + 1, none⟩ = some (.int .i64 (ls.getD k zeroH).oid) ∧ (∀ i, w.frozen? ⟨g, i, none⟩ = false) := by
  have a0 := cellsH_at ls k 0 (by omega) (by omega)
  have a1 := cellsH_at ls k 1 (by omega) (by omega)
  simp only [HoldV.cells, Nat.add_zero, List.getElem?_cons_zero, List.getElem?_cons_succ] at a0 a1
  exact ⟨by rw [h.cellAt (k * 2) (by omega)]; exact a0, by rw [h.cellAt (k * 2 + 1) (by omega)]; exact a1, fun i => h.frozenAt i⟩
theorem OwnH.reads {w : World} {lo hi : Nat} {a : Option Addr} {c : Nat} {ls : List HoldV} (h : OwnH w lo hi a c ls) : ReadsH w a ls := by
  intro hne
  rcases h.1.2 with ⟨_, h0⟩ | ⟨g, cap', cur, hv, hb, hg, hr⟩
  · exact absurd (List.length_eq_zero_iff.1 h0) hne
  · simp only [Value.slice.injEq] at hv
    obtain ⟨rfl, _, rfl⟩ := hv
    refine ⟨g, 0, rfl, fun k hk => ?_⟩
    obtain ⟨a0, a1, _⟩ := row_hold h.1 rfl k hk
    rw [Nat.zero_add]
    exact ⟨a0, a1⟩
theorem Tryz.infoHold : (Tryz.prog.info? 182).map (fun i => (i.zero, i.size, i.bytes)) = some (some (.agg #[.int .i64 0, .int .i64 0]), 2, 16) := by kernel_rfl
theorem holds_oneCell (zs : List HoldV) : ∀ v ∈ cellsH zs, v.oneCell' = true := by
  intro v hv
  obtain ⟨s, _, hs⟩ := List.mem_flatMap.1 hv
  simp only [HoldV.cells, List.mem_cons, List.not_mem_nil, or_false] at hs
  rcases hs with rfl | rfl <;> rfl

theorem append_holds {w : World} {ops : Array Oper} {rest : List Oper} {o : Oper} {act : Act} {Q : Exit → Act → World → Prop} (hgd : o.guard = none) (s x : Operand)
    (ho : o.op = .call { callee := .builtin .append, args := #[s, x], argTypes := #[103, 103] })
    (lo hi : Nat) (a : Option Addr) (c : Nat) (xs : List HoldV) (hs : act.eval s = .slice a xs.length c) (hown : OwnH w lo hi a c xs)
    (sa : Option Addr) (sc : Nat) (zs : List HoldV) (hx : act.eval x = .slice sa zs.length sc) (hr : ReadsH w sa zs) (hc : sa = none → sc = 0)
    (hb : xs.length + zs.length ≤ 1099511627776) (hlo : lo ≤ w.heap.size)
    (h : ∀ a' c' ys w', Hid (ys = xs ++ zs) → OwnH w' lo w'.heap.size a' c' ys → w.grownBy w' (Value.slice a xs.length c).ownBlock → wpList Tryz.prog ops Q rest (act.put o.dst (.slice a' ys.length c')) w') :
    wpList Tryz.prog ops Q (o :: rest) act w := by
  obtain ⟨i0, hi0, hz0, hz1, hz2⟩ := info_parts Tryz.infoHold
  have fin : ∀ v' w', w'.ownsRow lo 182 2 v' (xs.length + zs.length) (cellsH xs ++ cellsH zs) → w.grownBy w' (Value.slice a xs.length c).ownBlock → wpList Tryz.prog ops Q rest (act.put o.dst v') w' := by
    intro v' w' h1 h2
    rw [← cellsH_app, ← List.length_append] at h1
    have sh : ∃ a' c', v' = .slice a' (xs ++ zs).length c' := by
      rcases h1.2 with ⟨rfl, h0⟩ | ⟨g, cap, cur, rfl, _⟩
      · exact ⟨none, 0, by rw [h0]⟩
      · exact ⟨_, _, rfl⟩
    obtain ⟨a', c', rfl⟩ := sh
    exact h a' c' (xs ++ zs) w' rfl ⟨h1, Nat.le_refl _, fun k hk => (h1.lt k hk).2⟩ h2
  cases sa with
  | none =>
    have hz : zs = [] := by
      by_cases e : zs = []
      · exact e
      · obtain ⟨b, off, hh, _⟩ := hr e
        cases hh
    subst hz
    have := hc rfl
    subst this
    exact wpList_append_own_none hgd s x 103 ho lo 182 i0 2 Tryz.underlying103 hi0 _ _ _ hs hown.1 hx (fin _ w (by simpa [cellsH] using hown.1) (World.grownBy.refl _ _))
  | some ad =>
    refine wpList_append_own w hgd s x 103 ho lo 182 i0 (.agg #[.int .i64 0, .int .i64 0]) 2 16 Tryz.underlying103 hi0 hz0 hz1 hz2 rfl (by decide) _ _ _ hs hown.1 ad zs.length sc (cellsH zs) hx (by rw [cellsH_len]) ?_ (holds_oneCell _) (by simp only [maxLen]; omega) (by omega) hlo (fun v' w' h1 h2 _ => fin v' w' h1 h2)
    intro j u hj
    have hjl : j < zs.length * 2 := by rw [← cellsH_len]; exact (List.getElem?_eq_some_iff.1 hj).1
    have hne : zs ≠ [] := by intro e; simp [e] at hjl
    obtain ⟨b, off, hh, hcell⟩ := hr hne
    cases hh
    have hat := cellsH_at zs (j / 2) (j % 2) (by omega) (Nat.mod_lt _ (by omega))
    rw [show j / 2 * 2 + j % 2 = j by omega, hj] at hat
    obtain ⟨k0, k1⟩ := hcell (j / 2) (by omega)
    rw [Addr_add]
    rcases (by omega : j % 2 = 0 ∨ j % 2 = 1) with h' | h' <;> rw [h'] at hat <;> simp only [HoldV.cells, List.getElem?_cons_zero, List.getElem?_cons_succ, Option.some.injEq] at hat
    · rw [show off + j = off + j / 2 * 2 by omega, k0, hat]
    · rw [show off + j = off + j / 2 * 2 + 1 by omega, k1, hat]
theorem readsH_one (w : World) (z : HoldV) (t : TypeId) : ReadsH (w.alloc (.cells #[.int .i64 z.tx, .int .i64 z.oid] t)) (some ⟨w.heap.size, 0, none⟩) [z] := by
  intro _
  refine ⟨w.heap.size, 0, rfl, fun k hk => ?_⟩
  obtain rfl : k = 0 := by simpa using hk
  have b : Box (w.alloc (.cells #[.int .i64 z.tx, .int .i64 z.oid] t)) w.heap.size [.int .i64 z.tx, .int .i64 z.oid] t := box_new _ _ _
  exact ⟨b.cell 0 _ rfl, b.cell 1 _ rfl⟩
end Go.Proofs.YtickiokdcbeefaaGreatDoor
