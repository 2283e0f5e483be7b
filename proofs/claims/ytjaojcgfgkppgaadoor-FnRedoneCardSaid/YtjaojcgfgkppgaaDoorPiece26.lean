/- Several texts in one, in their order. -/
import Derived.Test.YtjaojcgfgkppgaaDoorPiece24
import Derived.Test.YtjaojcgfgkppgaaDoorPiece10
import Derived.Test.YtjaojcgfgkppgaaDoorPiece25
import Derived.Deep.RegionHeld3
import Derived.Test.YtjaojcgfgkppgaaDoorPiece7
/- The walks of spec.l3PutSlot and spec.PutPage. -/
namespace Go.Proofs.YtjaojcgfgkppgaaDoor
open Go.RowKit

theorem flatS_step (ss : List SlotA) (k : Nat) (h : k < ss.length) : ((ss.take (k + 1)).map (·.v)).flatMap putSlotOf = ((ss.take k).map (·.v)).flatMap putSlotOf ++ putSlotOf (ss.getD k zeroS).v := by
  rw [List.take_add_one, List.map_append, List.flatMap_append]
  simp [List.getD, h]

set_option maxHeartbeats 400000 in
set_option maxRecDepth 100000 in
theorem l3PutSlot_any (a : Option Addr) (c : Nat) (xs : List Int) (s : SlotA) (w : World) (hx : Reads w a xs) (hc : a = none → c = 0) (hr : s.reads w) (hl : Fit [s]) (hxl : xs.length ≤ 1000000) :
    Calls Tryd.prog 57 #[.slice a xs.length c, .agg s.cells.toArray] w fun e w' => ∃ a' c' ys, e = .returned (.slice a' ys.length c') ∧ Hid (ys = xs ++ putSlotOf s.v) ∧ OwnB w' w.heap.size a' c' ys ∧ Below w.heap.size w w' := by
  obtain ⟨h1, h2⟩ := hl s (List.mem_singleton.2 rfl)
  obtain ⟨W, hW, b0, hbW, hsW⟩ := boxes1 w s.cells 28
  have C1 := specPutObj_any s.v.o s.aI s.cI s.aR s.cR W (ReadsO.below hr hbW) (by omega) (by omega)
  have HT : Hid (s.v.has = true → putSlotOf s.v = putOf (putObjOf s.v.o).length ++ putObjOf s.v.o) := fun h => by unfold putSlotOf; rw [if_pos h]
  have HF : Hid (s.v.has = false → putSlotOf s.v = putOf 0) := fun h => by unfold putSlotOf; rw [if_neg (by rw [h]; decide)]
  have hpl := putObj_len s.v.o
  have HC : Hid (a = none → c = 0) := hc
  generalize putSlotOf s.v = R at *
  simp only [SlotA.cells] at *
  clear hc
  cases hh : s.v.has with
  | false =>
    have HR : Hid (_ = _) := HF.out hh
    rw [hh] at hW
    clear hh HT HF C1
    go_enter Tryd.func57, Tryd.ntmps57
    go_wp2_with fail
    rw [hW.out]
    refine (specPutInt_any a c xs 0 W (hx.below hbW) HC.out (by omega)).mono ?_
    rintro e w1 ⟨a1, c1, y1, rfl, hy1, ho1, hb1⟩
    have HY : Hid (y1 = xs ++ R) := by rw [Hid, hy1, HR.out]
    clear hy1
    go_wp2
    go_ret
    exact ⟨a1, c1, y1, rfl, HY, ho1.base hbW.size, hbW.trans (hb1.mono hbW.size)⟩
  | true =>
    have HR : Hid (_ = _) := HT.out hh
    rw [hh] at hW
    clear hh HT HF
    go_enter Tryd.func57, Tryd.ntmps57
    go_wp2_with fail
    rw [hW.out]
    refine C1.mono ?_
    clear C1
    rintro e w1 ⟨a1, c1, y1, rfl, HY1, ho1, hb1⟩
    have B1 : Below w.heap.size w w1 := hbW.trans (hb1.mono hbW.size)
    have hyl : y1.length ≤ 1000 := by rw [HY1.out]; exact hpl
    go_wp2_with fail
    refine (specPutInt_any a c xs y1.length w1 (hx.below B1) HC.out (by omega)).mono ?_
    rintro e w2 ⟨a2, c2, y2, rfl, hy2, ho2, hb2⟩
    have HY2 : Hid (y2 = xs ++ putOf y1.length) := hy2
    have hyl2 : y2.length ≤ 1000100 := by have := (putOf_len (y1.length : Int)).2; rw [HY2.out, List.length_append]; omega
    have B2 : Below w.heap.size w w2 := B1.trans (hb2.mono B1.size)
    have ho2' := ho2.base B1.size
    have hr12 := ho1.reads.below hb2
    have hnc := ho1.nocap
    have HNC : Hid (_) := hnc
    have hs2 := B2.size
    clear hy2 hnc
    go_wp2_with (at_builtin; refine append_bytes rfl _ _ rfl w.heap.size a2 c2 y2 rfl ho2' a1 c1 y1 rfl hr12 HNC.out (by omega) hs2 ?_; intro a3 c3 y3 w3 hy3 ho3 hg3)
    have HY : Hid (y3 = xs ++ R) := by rw [Hid, hy3.out, HY2.out, HR.out, HY1.out]; simp only [List.append_assoc]
    go_ret
    exact ⟨a3, c3, y3, rfl, HY, ho3, B2.grown hg3 hs2 (fun k hk => (ho2'.2.lt k hk).1)⟩

end Go.Proofs.YtjaojcgfgkppgaaDoor

/- The walk of spec.PutRec. -/
namespace Go.Proofs.YtjaojcgfgkppgaaDoor
open Go.RowKit

def putLive (l : LiveV) : List Int := (putOf l.tx ++ putOf l.last) ++ putOf (if l.aborts then 1 else 0)
def headR (r : RecV) : List Int := [r.lsn, r.tx, r.prev, r.kind, r.oid, r.next]
def bodyR (r : RecV) : List Int := ((((headR r).flatMap putOf ++ putSlotOf r.bf) ++ putSlotOf r.af) ++ putOf r.txs.length) ++ r.txs.flatMap putLive
/-- The bytes of a record. -/
def putRecOf (r : RecV) : List Int := if okR r then bodyR r else []
theorem putRec_ok {r : RecV} (h : okR r = true) : putRecOf r = bodyR r := by unfold putRecOf; rw [if_pos h]
theorem putRec_no {r : RecV} (h : okR r = false) : putRecOf r = [] := by unfold putRecOf; rw [if_neg (by rw [h]; decide)]
theorem flatN_len (ns : List Int) : (ns.flatMap putOf).length ≤ ns.length * 65 := by
  induction ns with
  | nil => simp
  | cons n r ih => have := (putOf_len n).2; simp only [List.flatMap_cons, List.length_append, List.length_cons]; omega
theorem putLive_len (l : LiveV) : (putLive l).length ≤ 195 := by
  have h1 := (putOf_len l.tx).2
  have h2 := (putOf_len l.last).2
  have h3 := (putOf_len (if l.aborts then 1 else 0)).2
  simp only [putLive, List.length_append]
  omega
theorem flatL_len (ls : List LiveV) : (ls.flatMap putLive).length ≤ ls.length * 195 := by
  induction ls with
  | nil => simp
  | cons n r ih => have := putLive_len n; simp only [List.flatMap_cons, List.length_append, List.length_cons]; omega
theorem flatL_step (ls : List LiveV) (k : Nat) (h : k < ls.length) : (ls.take (k + 1)).flatMap putLive = (ls.take k).flatMap putLive ++ putLive (ls.getD k zeroL) := by
  rw [List.take_add_one, List.flatMap_append]
  simp [List.getD, h]
theorem flatI_step (ns : List Int) (k : Nat) (h : k < ns.length) : (ns.take (k + 1)).flatMap putOf = (ns.take k).flatMap putOf ++ putOf (ns.getD k 0) := by
  rw [List.take_add_one, List.flatMap_append]
  simp [List.getD, h]
theorem okR_txs {r : RecV} (h : okR r = true) : r.txs.length ≤ 20 := by
  unfold okR at h
  simp only [Bool.and_eq_true] at h
  have h4 := h.2.2.2
  by_cases h6 : r.kind == 6
  · rw [if_pos h6] at h4
    simp [livesB] at h4
    exact h4.2.2
  · rw [if_neg h6] at h4
    have h5 := (Bool.and_eq_true _ _ ▸ (Bool.and_eq_true _ _ ▸ h4).2).2
    have hz : ∀ a b c d, zeroB r a b c d false = true → r.txs.length ≤ 20 := by
      intro a b c d hz
      simp only [zeroB, Bool.and_eq_true, Bool.false_or, decide_eq_true_eq] at hz
      omega
    split at h5
    · exact hz _ _ _ _ (Bool.and_eq_true _ _ ▸ h5).1
    · split at h5
      · exact hz _ _ _ _ (Bool.and_eq_true _ _ ▸ h5).1
      · split at h5
        · exact hz _ _ _ _ h5
        · split at h5
          · exact hz _ _ _ _ h5
          · split at h5
            · exact hz _ _ _ _ h5
            · exact absurd h5 (by decide)

set_option maxHeartbeats 4000000 in
set_option maxRecDepth 100000 in
theorem specPutRec_any (r : RecA) (w : World) (hr : r.reads w) (hl : r.short 1099511627776) :
    Calls Tryd.prog 22 #[.agg r.cells.toArray] w fun e w' => ∃ a' c' ys, e = .returned (.slice a' ys.length c') ∧ Hid (ys = putRecOf r.v) ∧ OwnB w' w.heap.size a' c' ys ∧ Below w.heap.size w w' := by
  obtain ⟨W, hW, b0, hbW, hsW⟩ := boxes1 w r.cells 31
  have C1 := specRecOk_any r W (hr.below hbW) hl
  have HPT : Hid (okR r.v = true → putRecOf r.v = bodyR r.v) := fun h => putRec_ok h
  have HPF : Hid (okR r.v = false → putRecOf r.v = []) := fun h => putRec_no h
  have HT20 : Hid (okR r.v = true → r.txs.length ≤ 20) := fun h => okR_txs h
  generalize putRecOf r.v = R at *
  have HCL : Hid (r.cells = _) := rfl
  simp only [RecA.cells] at *
  clear hsW
  go_enter Tryd.func22, Tryd.ntmps22
  go_wp2_with fail
  rw [hW.out]
  clear hW
  refine C1.mono ?_
  clear C1
  rintro e w1 ⟨rfl, hb1⟩
  have B1 : Below w.heap.size w w1 := hbW.trans (hb1.mono hbW.size)
  have b1 := b0.below hb1 b0.lt
  clear b0 hb1 hbW
  cases hok : okR r.v with
  | false =>
    have HR : Hid (R = []) := HPF.out hok
    clear hok HPT HPF HT20
    go_wp2
    go_ret
    exact ⟨_, 0, [], rfl, HR.out.symm, (own_lit0 w1).base B1.size, B1.alloc B1.size _⟩
  | true =>
    have HR : Hid (R = bodyR r.v) := HPT.out hok
    have h20 := HT20.out hok
    clear hok HPT HPF HT20
    obtain ⟨W2, hW2, c0, c1, hb2, hs2⟩ := boxes2 w1 [] [.int .i64 r.lsn, .int .i64 r.tx, .int .i64 r.prev, .int .i64 r.kind, .int .i64 r.oid, .int .i64 r.next] 5 3
    have x0 := (b1.alloc (.cells #[] 5)).cell 0 _ rfl
    have x1 := (b1.alloc (.cells #[] 5)).cell 1 _ rfl
    have x2 := (b1.alloc (.cells #[] 5)).cell 2 _ rfl
    have x3 := (b1.alloc (.cells #[] 5)).cell 3 _ rfl
    have x4 := (b1.alloc (.cells #[] 5)).cell 4 _ rfl
    have x13 := (b1.alloc (.cells #[] 5)).cell 13 _ rfl
    have b2 := b1.below hb2 b1.lt
    have B2 : Below w.heap.size w W2 := B1.trans (hb2.mono B1.size)
    have ho2 : OwnB W2 w.heap.size (some ⟨w1.heap.size, 0, none⟩) 0 [] := by
      have h1 := (own_lit0 w1).below (w' := W2) (by rw [← hW2.out]; exact (Below.refl _ _).alloc (Nat.le_refl _) _)
      exact h1.base B1.size
    go_wp2_with fail
    rw [hW2.out]
    clear hW2 x0 x1 x2 x3 x4 x13
    have HN : Hid (headR r.v = [r.lsn, r.tx, r.prev, r.kind, r.oid, r.next]) := rfl
    generalize hns : headR r.v = ns at *
    have c1' : Box W2 (w1.heap.size + 1) (ns.map (Value.int .i64)) 3 := by rw [HN.out]; exact c1
    have hn6 : Hid (ns.length = 6) := by rw [HN.out]; rfl
    clear c1 c0 HN HCL
    go_loopw [3, 5] (fun b i wr => ∃ (a' : Option Addr) (c' : Nat) (ys : List Int) (k : Nat), b = .slice a' ys.length c' ∧ i = .int .i64 k ∧ k ≤ 6 ∧ Hid (ys = (ns.take k).flatMap putOf) ∧ OwnB wr w.heap.size a' c' ys ∧ Below W2.heap.size W2 wr)
      (fun _ i _ => 6 - (intOf i).toNat)
    case atStart => exact ⟨_, 0, [], 0, rfl, rfl, by omega, rfl, ho2, Below.refl _ _⟩
    case round =>
      obtain ⟨a', c', ys, k, rfl, rfl, hk, hy, ho, hbx⟩ := hrel
      clear ho2
      have hbl : Below w.heap.size w wr := B2.trans (hbx.mono B2.size)
      have hyl : ys.length ≤ 1000 := by
        have h1 := flatN_len (ns.take k)
        rw [hy.out]
        rw [List.length_take] at h1
        omega
      by_cases hlt : k < 6
      · have hkl : k < ns.length := by rw [hn6.out]; exact hlt
        have cr := (c1'.below hbx c1'.lt).cell k (.int .i64 (ns.getD k 0)) (by simp [List.getD, hkl])
        have hi0 : (0 : Int) ≤ (k : Int) := by omega
        have hi4 : (k : Int) < 6 := by omega
        have HF : Hid (_ = _) := flatI_step ns k hkl
        generalize ns.getD k 0 = z at *
        have C := specPutInt_any a' c' ys z wr ho.reads ho.nocap (by omega)
        clear hkl
        go_wp2_with fail
        refine C.mono ?_
        clear C
        rintro e w4 ⟨a4, c4, y4, rfl, hy4, ho4, hb4⟩
        have HY : Hid (y4 = (ns.take (k + 1)).flatMap putOf) := by rw [Hid, hy4, hy.out, HF.out]
        clear hy4
        go_wp2_with fail
        go_roundw
        case rel => exact ⟨a4, c4, y4, k + 1, rfl, by go_num, by omega, HY, ho4.base hbl.size, hbx.trans (hb4.mono hbx.size)⟩
        case measure => simp [intOf]; omega
      · obtain rfl : k = 6 := by omega
        have hkk : ¬ ((6 : Nat) : Int) < 6 := by omega
        have HY0 : Hid (ys = ns.flatMap putOf) := by rw [Hid, hy.out, List.take_of_length_le (by rw [hn6.out]; omega)]
        have br := b2.below hbx b2.lt
        have hltr := br.lt
        have HRB : Hid (∀ u, Below w.heap.size w u → r.bf.reads u) := fun u hu => ReadsO.below hr.bf hu
        have HRA : Hid (∀ u, Below w.heap.size w u → r.af.reads u) := fun u hu => ReadsO.below hr.af hu
        have HFB : Hid (Fit [r.bf]) := fun s hs => by obtain rfl := List.mem_singleton.1 hs; exact hl.bf
        have HFA : Hid (Fit [r.af]) := fun s hs => by obtain rfl := List.mem_singleton.1 hs; exact hl.af
        have HP1 : Hid (_ ≤ _) := putSlot_len r.bf.v
        have HP2 : Hid (_ ≤ _) := putSlot_len r.af.v
        have hkeep : ∀ u, Below wr.heap.size wr u → u.cell? ⟨w.heap.size, 5, none⟩ = some (.bool r.bf.v.has) ∧ u.cell? ⟨w.heap.size, 6, none⟩ = some (.int .i64 r.bf.v.o.kind) ∧ u.cell? ⟨w.heap.size, 7, none⟩ = some (.slice r.bf.aI r.bf.v.o.ints.length r.bf.cI) ∧ u.cell? ⟨w.heap.size, 8, none⟩ = some (.slice r.bf.aR r.bf.v.o.refs.length r.bf.cR) ∧ u.cell? ⟨w.heap.size, 9, none⟩ = some (.bool r.af.v.has) ∧ u.cell? ⟨w.heap.size, 10, none⟩ = some (.int .i64 r.af.v.o.kind) ∧ u.cell? ⟨w.heap.size, 11, none⟩ = some (.slice r.af.aI r.af.v.o.ints.length r.af.cI) ∧ u.cell? ⟨w.heap.size, 12, none⟩ = some (.slice r.af.aR r.af.v.o.refs.length r.af.cR) ∧ u.cell? ⟨w.heap.size, 14, none⟩ = some (.slice r.aL r.txs.length r.cL) :=
          fun u hh => ⟨(br.below hh hltr).cell 5 _ rfl, (br.below hh hltr).cell 6 _ rfl, (br.below hh hltr).cell 7 _ rfl, (br.below hh hltr).cell 8 _ rfl, (br.below hh hltr).cell 9 _ rfl, (br.below hh hltr).cell 10 _ rfl, (br.below hh hltr).cell 11 _ rfl, (br.below hh hltr).cell 12 _ rfl, (br.below hh hltr).cell 14 _ rfl⟩
        have hh := hkeep wr (Below.refl _ _)
        go_wp2_with fail
        go_region_held3 (fun u => u.cell? ⟨w.heap.size, 5, none⟩ = some (.bool r.bf.v.has) ∧ u.cell? ⟨w.heap.size, 6, none⟩ = some (.int .i64 r.bf.v.o.kind) ∧ u.cell? ⟨w.heap.size, 7, none⟩ = some (.slice r.bf.aI r.bf.v.o.ints.length r.bf.cI) ∧ u.cell? ⟨w.heap.size, 8, none⟩ = some (.slice r.bf.aR r.bf.v.o.refs.length r.bf.cR) ∧ u.cell? ⟨w.heap.size, 9, none⟩ = some (.bool r.af.v.has) ∧ u.cell? ⟨w.heap.size, 10, none⟩ = some (.int .i64 r.af.v.o.kind) ∧ u.cell? ⟨w.heap.size, 11, none⟩ = some (.slice r.af.aI r.af.v.o.ints.length r.af.cI) ∧ u.cell? ⟨w.heap.size, 12, none⟩ = some (.slice r.af.aR r.af.v.o.refs.length r.af.cR) ∧ u.cell? ⟨w.heap.size, 14, none⟩ = some (.slice r.aL r.txs.length r.cL))
          (first | exact hkeep _ hw5 | exact hkeep _ hw4 | exact hkeep _ hw3 | go_keep | fail)
          (first
          | (go_at_call_of 57 (Value.slice a' ys.length c'); refine (l3PutSlot_any a' c' ys r.bf _ (ho.reads.below (Below.refl _ _).drew) ho.nocap (HRB.out _ hbl.drew) HFB.out (by omega)).mono ?_; rintro e w3 ⟨a3, c3, y3, rfl, HY3, ho3, hb3⟩; have hw3 : Below wr.heap.size wr w3 := ((Below.refl wr.heap.size wr).drew).trans (hb3.mono (Nat.le_refl _)); have hl3 : y3.length ≤ 3000 := (by have := HP1.out; rw [HY3.out, List.length_append]; omega))
          | (go_at_call_of 57 (Value.slice a3 y3.length c3); refine (l3PutSlot_any a3 c3 y3 r.af w3 ho3.reads ho3.nocap (HRA.out _ (hbl.trans (hw3.mono hbl.size))) HFA.out (by omega)).mono ?_; rintro e w4 ⟨a4, c4, y4, rfl, HY4, ho4, hb4⟩; have hw4 : Below wr.heap.size wr w4 := hw3.trans (hb4.mono hw3.size); have hl4 : y4.length ≤ 5000 := (by have := HP2.out; rw [HY4.out, List.length_append]; omega))
          | (go_at_call_of 56 (Value.slice a4 y4.length c4); refine (specPutInt_any a4 c4 y4 r.txs.length w4 ho4.reads ho4.nocap (by omega)).mono ?_; rintro e w5 ⟨a5, c5, y5, rfl, hy5, ho5, hb5⟩; have hw5 : Below wr.heap.size wr w5 := hw4.trans (hb5.mono hw4.size); have HY5 : Hid (_ = _) := hy5; clear hy5)
          | fail)
        have B5 : Below w.heap.size w w5 := hbl.trans (hw5.mono hbl.size)
        have b5 := br.below hw5 hltr
        have ho5' : OwnB w5 w.heap.size a5 c5 y5 := ho5.base (Nat.le_trans hbl.size hw4.size)
        obtain ⟨H, hH⟩ : ∃ H, Hid (H = ((ns.flatMap putOf ++ putSlotOf r.bf.v) ++ putSlotOf r.af.v) ++ putOf r.txs.length) := ⟨_, rfl⟩
        have HY : Hid (y5 = H) := by rw [Hid, HY5.out, HY4.out, HY3.out, HY0.out, hH.out]
        have HRR : Hid (R = H ++ r.txs.flatMap putLive) := by rw [Hid, HR.out, hH.out, ← hns]; rfl
        have hHl : H.length ≤ 6000 := by
          have h1 := (putOf_len (r.txs.length : Int)).2
          rw [← HY.out, HY5.out, List.length_append]
          omega
        have hrt := hr.txs
        clear HY5 HY4 HY3 HY0 hH HR hns hn6 hh hkeep ho5 ho4 ho3 hb5 hb4 hb3 hw5 hw4 hw3 hl3 hl4 HP1 HP2 HFA HFB HRA HRB br hltr hbl hbx ho hy hyl hkk c1' b1 b2 B1 B2 hb2 hs2 hl hr hk hlt
        go_wp2_with fail
        go_loopw [3, 6] (fun b i wr => ∃ (a' : Option Addr) (c' : Nat) (ys : List Int) (k : Nat), b = .slice a' ys.length c' ∧ i = .int .i64 k ∧ k ≤ r.txs.length ∧ Hid (ys = H ++ (r.txs.take k).flatMap putLive) ∧ OwnB wr w.heap.size a' c' ys ∧ Below w5.heap.size w5 wr)
          (fun _ i _ => r.txs.length - (intOf i).toNat)
        case atStart => exact ⟨a5, c5, y5, 0, rfl, rfl, by omega, by rw [Hid, HY.out]; simp, ho5', Below.refl _ _⟩
        case round =>
        obtain ⟨a', c', ys, k, rfl, rfl, hk, hy, ho, hbx⟩ := hrel
        clear HY ho5'
        have hbl : Below w.heap.size w wr := B5.trans (hbx.mono B5.size)
        have br := b5.below hbx b5.lt
        have hltr := br.lt
        have d14 := br.cell 14 _ rfl
        have hyl : ys.length ≤ 100000 := by
          have h1 := flatL_len (r.txs.take k)
          rw [hy.out, List.length_append]
          rw [List.length_take] at h1
          omega
        by_cases hlt : k < r.txs.length
        · obtain ⟨bk, off, haL, hcell⟩ := (hrt.below hbl) (by intro e; rw [e] at hlt; simp at hlt)
          obtain ⟨d0, d1, d2⟩ := hcell k hlt
          have HF : Hid (_ = _) := flatL_step r.txs k hlt
          generalize r.txs.getD k zeroL = z at *
          rw [haL] at d14
          have hkeep : ∀ u, Below wr.heap.size wr u → u.cell? ⟨w.heap.size, 14, none⟩ = some (.slice (some ⟨bk, off, none⟩) r.txs.length r.cL) ∧ u.cell? ⟨bk, off + k * 3, none⟩ = some (.int .i64 z.tx) ∧ u.cell? ⟨bk, off + k * 3 + 1, none⟩ = some (.int .i64 z.last) := fun u hu => ⟨(hu.cell (block_lt d14)).trans d14, (hu.cell (block_lt d0)).trans d0, (hu.cell (block_lt d1)).trans d1⟩
          have hh := hkeep wr (Below.refl _ _)
          clear hcell br b5 haL hrt
          cases hza : z.aborts with
          | false =>
            have HF2 : Hid ((r.txs.take (k + 1)).flatMap putLive = (r.txs.take k).flatMap putLive ++ ((putOf z.tx ++ putOf z.last) ++ putOf 0)) := by rw [Hid, HF.out, putLive, hza]; rfl
            rw [hza] at d2
            clear HF
            go_wp2_with fail
            go_region_held3 (fun u => u.cell? ⟨w.heap.size, 14, none⟩ = some (.slice (some ⟨bk, off, none⟩) r.txs.length r.cL) ∧ u.cell? ⟨bk, off + k * 3, none⟩ = some (.int .i64 z.tx) ∧ u.cell? ⟨bk, off + k * 3 + 1, none⟩ = some (.int .i64 z.last))
              (first | exact hkeep _ hw8 | exact hkeep _ hw7 | exact hkeep _ hw6 | go_keep | fail)
              (first
              | (go_at_call_of 56 (Value.slice a' ys.length c'); refine (specPutInt_any a' c' ys z.tx _ (ho.reads.below (Below.refl _ _).drew) ho.nocap (by omega)).mono ?_; rintro e w6 ⟨a6, c6, y6, rfl, hy6, ho6, hb6⟩; have hw6 : Below wr.heap.size wr w6 := ((Below.refl wr.heap.size wr).drew).trans (hb6.mono (Nat.le_refl _)); have hl6 : y6.length ≤ 200000 := (by have := (putOf_len z.tx).2; rw [hy6, List.length_append]; omega); have HY6 : Hid (_ = _) := hy6; clear hy6)
              | (go_at_call_of 56 (Value.slice a6 y6.length c6); refine (specPutInt_any a6 c6 y6 z.last w6 ho6.reads ho6.nocap (by omega)).mono ?_; rintro e w7 ⟨a7, c7, y7, rfl, hy7, ho7, hb7⟩; have hw7 : Below wr.heap.size wr w7 := hw6.trans (hb7.mono hw6.size); have hl7 : y7.length ≤ 300000 := (by have := (putOf_len z.last).2; rw [hy7, List.length_append]; omega); have HY7 : Hid (_ = _) := hy7; clear hy7)
              | (go_at_call_of 56 (Value.slice a7 y7.length c7); refine (specPutInt_any a7 c7 y7 0 w7 ho7.reads ho7.nocap (by omega)).mono ?_; rintro e w8 ⟨a8, c8, y8, rfl, hy8, ho8, hb8⟩; have hw8 : Below wr.heap.size wr w8 := hw7.trans (hb8.mono hw7.size); have HY8 : Hid (_ = _) := hy8; clear hy8)
              | fail)
            all_goals
              have HY9 : Hid (y8 = H ++ (r.txs.take (k + 1)).flatMap putLive) := by rw [Hid, HY8.out, HY7.out, HY6.out, hy.out, HF2.out]; simp only [List.append_assoc]
              go_wp2_with fail
              go_roundw
              case rel => exact ⟨a8, c8, y8, k + 1, rfl, by go_num, by omega, HY9, ho8.base (Nat.le_trans hbl.size hw7.size), hbx.trans (hw8.mono hbx.size)⟩
              case measure => simp [intOf]; omega
          | true =>
            have HF2 : Hid ((r.txs.take (k + 1)).flatMap putLive = (r.txs.take k).flatMap putLive ++ ((putOf z.tx ++ putOf z.last) ++ putOf 1)) := by rw [Hid, HF.out, putLive, hza]; rfl
            rw [hza] at d2
            clear HF
            go_wp2_with fail
            go_region_held3 (fun u => u.cell? ⟨w.heap.size, 14, none⟩ = some (.slice (some ⟨bk, off, none⟩) r.txs.length r.cL) ∧ u.cell? ⟨bk, off + k * 3, none⟩ = some (.int .i64 z.tx) ∧ u.cell? ⟨bk, off + k * 3 + 1, none⟩ = some (.int .i64 z.last))
              (first | exact hkeep _ hw8 | exact hkeep _ hw7 | exact hkeep _ hw6 | go_keep | fail)
              (first
              | (go_at_call_of 56 (Value.slice a' ys.length c'); refine (specPutInt_any a' c' ys z.tx _ (ho.reads.below (Below.refl _ _).drew) ho.nocap (by omega)).mono ?_; rintro e w6 ⟨a6, c6, y6, rfl, hy6, ho6, hb6⟩; have hw6 : Below wr.heap.size wr w6 := ((Below.refl wr.heap.size wr).drew).trans (hb6.mono (Nat.le_refl _)); have hl6 : y6.length ≤ 200000 := (by have := (putOf_len z.tx).2; rw [hy6, List.length_append]; omega); have HY6 : Hid (_ = _) := hy6; clear hy6)
              | (go_at_call_of 56 (Value.slice a6 y6.length c6); refine (specPutInt_any a6 c6 y6 z.last w6 ho6.reads ho6.nocap (by omega)).mono ?_; rintro e w7 ⟨a7, c7, y7, rfl, hy7, ho7, hb7⟩; have hw7 : Below wr.heap.size wr w7 := hw6.trans (hb7.mono hw6.size); have hl7 : y7.length ≤ 300000 := (by have := (putOf_len z.last).2; rw [hy7, List.length_append]; omega); have HY7 : Hid (_ = _) := hy7; clear hy7)
              | (go_at_call_of 56 (Value.slice a7 y7.length c7); refine (specPutInt_any a7 c7 y7 1 w7 ho7.reads ho7.nocap (by omega)).mono ?_; rintro e w8 ⟨a8, c8, y8, rfl, hy8, ho8, hb8⟩; have hw8 : Below wr.heap.size wr w8 := hw7.trans (hb8.mono hw7.size); have HY8 : Hid (_ = _) := hy8; clear hy8)
              | fail)
            all_goals
              have HY9 : Hid (y8 = H ++ (r.txs.take (k + 1)).flatMap putLive) := by rw [Hid, HY8.out, HY7.out, HY6.out, hy.out, HF2.out]; simp only [List.append_assoc]
              go_wp2_with fail
              go_roundw
              case rel => exact ⟨a8, c8, y8, k + 1, rfl, by go_num, by omega, HY9, ho8.base (Nat.le_trans hbl.size hw7.size), hbx.trans (hw8.mono hbx.size)⟩
              case measure => simp [intOf]; omega
        · have HE : Hid (ys = R) := by rw [Hid, hy.out, HRR.out, List.take_of_length_le (by omega)]
          go_wp2
          go_ret
          exact ⟨a', c', ys, rfl, HE, ho, hbl⟩
end Go.Proofs.YtjaojcgfgkppgaaDoor

/- The walk of laws.toPage. -/
namespace Go.Proofs.YtjaojcgfgkppgaaDoor
open Go.RowKit

end Go.Proofs.YtjaojcgfgkppgaaDoor
