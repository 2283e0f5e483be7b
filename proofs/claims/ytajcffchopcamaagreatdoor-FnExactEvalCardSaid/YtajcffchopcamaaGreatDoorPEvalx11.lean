/- Several texts in one, in their order. -/
import Derived.Test.YtajcffchopcamaaGreatDoorPEvalx3
import Derived.Test.YtajcffchopcamaaGreatDoorPEvalx10
import Derived.Deep.RegionHeld3
import Derived.WalkKit
/- The walks of laws.szIntS and szObj. -/
namespace Go.Proofs.YtajcffchopcamaaGreatDoor
open Go.RowKit

/-- What is left of a size. -/
def szOf (n : Nat) (left : Int) : Int := if left - n < 0 then -1 else left - n

set_option maxHeartbeats 400000 in
theorem szIntS_any (a : Option Addr) (c n : Nat) (left : Int) (w : World) (hn : n ≤ 9223372036854775807) (h0 : 0 ≤ left ∧ left ≤ 1048576) :
    Calls Tryz.prog 96 #[.slice a n c, .int .i64 left] w fun e w' => e = .returned (.int .i64 (szOf n left)) ∧ w' = w := by
  by_cases h : left - n < 0
  · have HS : Hid (szOf n left = -1) := by unfold szOf; rw [Hid, if_pos h]
    go_enter Tryz.func96, Tryz.ntmps96
    go_wp2
    go_ret
    exact ⟨ret_int HS.out.symm, rfl⟩
  · have HS : Hid (szOf n left = left - n) := by unfold szOf; rw [Hid, if_neg h]
    go_enter Tryz.func96, Tryz.ntmps96
    go_wp2
    go_ret
    exact ⟨ret_int HS.out.symm, rfl⟩

def szObjOf (o : ObjV) (left : Int) : Int := if left - o.ints.length < 0 then -1 else if left - o.ints.length - o.refs.length < 0 then -1 else left - o.ints.length - o.refs.length

set_option maxHeartbeats 400000 in
set_option maxRecDepth 100000 in
theorem szObj_any (o : ObjV) (aI : Option Addr) (cI : Nat) (aR : Option Addr) (cR : Nat) (left : Int) (w : World) (hnI : o.ints.length ≤ 9223372036854775807) (hnR : o.refs.length ≤ 9223372036854775807) (h0 : 0 ≤ left ∧ left ≤ 1048576) :
    Calls Tryz.prog 72 #[.agg #[.int .i64 o.kind, .slice aI o.ints.length cI, .slice aR o.refs.length cR], .int .i64 left] w fun e w' => e = .returned (.int .i64 (szObjOf o left)) ∧ Below w.heap.size w w' := by
  obtain ⟨k, ints, refs⟩ := o
  simp only at *
  obtain ⟨W, hW, b0, hbW, hsW⟩ := boxes1 w [.int .i64 k, .slice aI ints.length cI, .slice aR refs.length cR] 82
  have c2 := b0.cell 2 _ rfl
  by_cases h : left - ints.length < 0
  · have HS : Hid (szObjOf ⟨k, ints, refs⟩ left = -1) := by unfold szObjOf; rw [Hid, if_pos h]
    have HZ : Hid (szOf ints.length left = -1) := by unfold szOf; rw [Hid, if_pos h]
    go_enter Tryz.func72, Tryz.ntmps72
    go_wp2_with fail
    rw [hW.out]
    refine (szIntS_any aI cI ints.length left W hnI h0).mono ?_
    rintro e w' ⟨rfl, rfl⟩
    rw [HZ.out]
    go_wp2
    go_ret
    exact ⟨ret_int HS.out.symm, hbW⟩
  · have HZ : Hid (szOf ints.length left = left - ints.length) := by unfold szOf; rw [Hid, if_neg h]
    have hn1 : ¬ left < ints.length := by omega
    by_cases h2 : left - ints.length - refs.length < 0
    · have HS : Hid (szObjOf ⟨k, ints, refs⟩ left = -1) := by unfold szObjOf; rw [Hid, if_neg h, if_pos h2]
      have HZ2 : Hid (szOf refs.length (left - ints.length) = -1) := by unfold szOf; rw [Hid, if_pos h2]
      go_enter Tryz.func72, Tryz.ntmps72
      go_wp2_with fail
      rw [hW.out]
      refine (szIntS_any aI cI ints.length left W hnI h0).mono ?_
      rintro e w' ⟨rfl, rfl⟩
      rw [HZ.out]
      go_wp2_with fail
      refine (szIntS_any aR cR refs.length (left - ints.length) _ hnR (by omega)).mono ?_
      rintro e w' ⟨rfl, rfl⟩
      rw [HZ2.out]
      go_wp2
      go_ret
      exact ⟨ret_int HS.out.symm, hbW⟩
    · have HS : Hid (szObjOf ⟨k, ints, refs⟩ left = left - ints.length - refs.length) := by unfold szObjOf; rw [Hid, if_neg h, if_neg h2]
      have HZ2 : Hid (szOf refs.length (left - ints.length) = left - ints.length - refs.length) := by unfold szOf; rw [Hid, if_neg h2]
      go_enter Tryz.func72, Tryz.ntmps72
      go_wp2_with fail
      rw [hW.out]
      refine (szIntS_any aI cI ints.length left W hnI h0).mono ?_
      rintro e w' ⟨rfl, rfl⟩
      rw [HZ.out]
      go_wp2_with fail
      refine (szIntS_any aR cR refs.length (left - ints.length) _ hnR (by omega)).mono ?_
      rintro e w' ⟨rfl, rfl⟩
      rw [HZ2.out]
      go_wp2
      go_ret
      exact ⟨ret_int HS.out.symm, hbW⟩

end Go.Proofs.YtajcffchopcamaaGreatDoor

/- The walks of laws.szSlot, szSlotA4, szPage. -/
namespace Go.Proofs.YtajcffchopcamaaGreatDoor
open Go.RowKit

/-- What a size's reckoner answers: below 0, or what is left, and these slots are small. -/
def SzAns (ss : List SlotA) (left z : Int) : Prop := z < 0 ∨ (0 ≤ z ∧ z ≤ left ∧ ∀ s ∈ ss, s.v.o.ints.length ≤ 1048576 ∧ s.v.o.refs.length ≤ 1048576)

theorem szAns_obj (s : SlotA) (left : Int) (h : 0 ≤ left ∧ left ≤ 1048576) : SzAns [s] left (szObjOf s.v.o left) := by
  unfold SzAns szObjOf
  split
  · exact .inl (by omega)
  · split
    · exact .inl (by omega)
    · exact .inr ⟨by omega, by omega, by intro t ht; obtain rfl := List.mem_singleton.1 ht; omega⟩
def Small (ss : List SlotA) : Prop := ∀ s ∈ ss, s.v.o.ints.length ≤ 9223372036854775807 ∧ s.v.o.refs.length ≤ 9223372036854775807

set_option maxHeartbeats 400000 in
set_option maxRecDepth 100000 in
theorem szSlot_any (s : SlotA) (left : Int) (w : World) (hn : Small [s]) (h0 : 0 ≤ left ∧ left ≤ 1048576) :
    Calls Tryz.prog 44 #[.agg s.cells.toArray, .int .i64 left] w fun e w' => ∃ z, e = .returned (.int .i64 z) ∧ SzAns [s] left z ∧ Below w.heap.size w w' := by
  have HA : Hid _ := szAns_obj s left h0
  obtain ⟨h1, h2⟩ := hn s (List.mem_singleton.2 rfl)
  obtain ⟨W, hW, b0, hbW, hsW⟩ := boxes1 w s.cells 84
  simp only [SlotA.cells] at *
  go_enter Tryz.func44, Tryz.ntmps44
  go_wp2_with fail
  rw [hW.out]
  refine (szObj_any s.v.o s.aI s.cI s.aR s.cR left W h1 h2 h0).mono ?_
  rintro e w1 ⟨rfl, hb1⟩
  generalize szObjOf s.v.o left = z at *
  clear hsW
  by_cases hz : z < 0
  · go_wp2
    go_ret
    exact ⟨-1, rfl, .inl (by omega), hbW.trans (hb1.mono hbW.size)⟩
  · go_wp2
    go_ret
    exact ⟨z, rfl, HA.out, hbW.trans (hb1.mono hbW.size)⟩

end Go.Proofs.YtajcffchopcamaaGreatDoor

/- The walks of laws.toSlotS, szSlotS, eqSlotS. -/
namespace Go.Proofs.YtajcffchopcamaaGreatDoor
open Go.RowKit

theorem Tryz.infoSlotV : (Tryz.prog.info? 41).map (fun i => (i.zero, i.size, i.bytes)) = some (some (.agg zeroS.cells.toArray), 4, 64) := by kernel_rfl
def SlotA.short (s : SlotA) (m : Nat) : Prop := s.v.o.ints.length ≤ m ∧ s.v.o.refs.length ≤ m
theorem slot_oneV (t : SlotA) : t.cells.toArray.all (·.oneCell') = true := all_oneCell_toArray (by intro v hv; simp only [SlotA.cells, List.mem_cons, List.not_mem_nil, or_false] at hv; rcases hv with rfl | rfl | rfl | rfl <;> rfl)
theorem rep_lenV (n : Nat) (r : SlotA) : (List.replicate n r).length = n := by simp
theorem zero_cellsVw (n : Nat) : (madeCells (Value.agg zeroS.cells.toArray).cells (n * 4)).toList = cellsVw (List.replicate n zeroS) := by
  apply List.ext_getElem?
  intro i
  by_cases h : i < n * 4
  · have e := cellsVw_at (List.replicate n zeroS) (i / 4) (i % 4) (by simp; omega) (Nat.mod_lt _ (by omega))
    rw [show i / 4 * 4 + i % 4 = i by omega] at e
    rw [e]
    have hg : (List.replicate n zeroS).getD (i / 4) zeroS = zeroS := by simp [List.getD, show i / 4 < n by omega]
    rw [hg]
    simp only [madeCells, Array.toList_map, List.getElem?_map, Array.toList_range, List.getElem?_range h, Option.map_some]
    have hm : i % 4 < 4 := Nat.mod_lt _ (by omega)
    have hz : ∀ j, j < 4 → some ((Value.agg zeroS.cells.toArray).cells[j]!) = zeroS.cells[j]? := by
      intro j hj
      rcases (by omega : j = 0 ∨ j = 1 ∨ j = 2 ∨ j = 3) with rfl | rfl | rfl | rfl <;> rfl
    exact hz _ hm
  · rw [List.getElem?_eq_none (by simp [size_madeCells]; omega), List.getElem?_eq_none (by rw [cellsVw_len]; simp; omega)]
theorem own_zeroVw {w : World} {lo hi g c : Nat} (n : Nat) (h : w.ownsRow lo 41 4 (.slice (some ⟨g, 0, none⟩) n c) n (cellsVw (List.replicate n zeroS))) (ht : hi ≤ w.heap.size) (hg : g < hi) : OwnVw w lo hi (some ⟨g, 0, none⟩) c (List.replicate n zeroS) := by
  refine ⟨by rw [rep_lenV]; exact h, ht, fun k hk => by cases hk; exact hg, fun r hr => ?_, ?_⟩
  · rw [(List.mem_replicate.1 hr).2]
    exact ⟨ownI_nil _ _ _ ht, ownI_nil _ _ _ ht, fun k hk => by cases hk⟩
  · have e : (List.replicate n zeroS).flatMap SlotA.blocks = [] := by
      rw [List.flatMap_eq_nil_iff]
      intro r hr
      rw [(List.mem_replicate.1 hr).2]
      rfl
    rw [e]
    simp [Value.ownBlock]

/-- The first k of a row have come. -/
def CameV (rs ts : List SlotA) (k : Nat) : Prop := ts.length = k ∧ ts.map SlotA.v = (rs.take k).map SlotA.v
theorem cameV_none (rs : List SlotA) : CameV rs [] 0 := ⟨rfl, by simp⟩
theorem CameV.snoc {rs ts : List SlotA} {k : Nat} (h : CameV rs ts k) (hk : k < rs.length) {q : SlotA} (hq : q.v = (rs.getD k zeroS).v) : CameV rs (ts ++ [q]) (k + 1) := by
  refine ⟨by simp [h.1], ?_⟩
  have e : rs.getD k zeroS = rs[k] := by simp [List.getD, hk]
  rw [List.map_append, h.2, List.take_succ_eq_append_getElem hk, List.map_append, List.map_singleton, List.map_singleton, hq, e]
theorem CameV.all {rs ts : List SlotA} (h : CameV rs ts rs.length) : ts.map SlotA.v = rs.map SlotA.v := by
  have := h.2
  rwa [List.take_length] at this
theorem range_belowV {w w' : World} {b o : Nat} {r : SlotA} (h : w.rangeAt b o r.cells) (hb : Below w.heap.size w w') : w'.rangeAt b o r.cells := rangeAt_belowV h hb (rangeV_lt h)

set_option maxHeartbeats 1000000 in
set_option maxRecDepth 100000 in
theorem toSlotS_any (a : Option Addr) (cap : Nat) (rs : List SlotA) (w : World) (hr : ReadsVw w a rs) (hl : rs.length ≤ 1048576) (hs : ∀ r ∈ rs, r.short 1048576) :
    Calls Tryz.prog 17 #[.slice a rs.length cap] w fun e w' => ∃ a' c' ts, e = .returned (.slice a' ts.length c') ∧ Hid (ts.map SlotA.v = rs.map SlotA.v) ∧ OwnVw w' w.heap.size w'.heap.size a' c' ts ∧ Below w.heap.size w w' := by
  obtain ⟨i0, hi, hz0, hz1, hz2⟩ := info_parts Tryz.infoSlotV
  have HI : Hid ((Tryz.prog.info? 84).map (·.size) = some 4) := by rw [Hid]; kernel_rfl
  have HJ : Hid ((Tryz.prog.info? 41).map (·.size) = some 4) := by rw [Hid]; kernel_rfl
  rcases hr.cases with rfl | ⟨b, off, rfl, hpos, hcell⟩
  · go_enter Tryz.func17, Tryz.ntmps17
    go_wp2_with (at_make; refine wpList_make_full _ rfl _ _ 24 rfl w.heap.size 41 i0 (.agg zeroS.cells.toArray) 4 Tryz.underlying24 hi hz0 hz1 _ _ _ _ 0 rfl rfl (by simp) (by simp) (by omega) (by simp [maxLen]) (Nat.le_refl _) ?_)
    intro w0 hown0 hgrow0
    have hB : Below w.heap.size w w0 := (Below.refl _ _).grown hgrow0 (Nat.le_refl _) (fun k h => by cases h)
    have ho : w0.ownsRow w.heap.size 41 4 (.slice (some ⟨w.heap.size, 0, none⟩) 0 0) 0 (cellsVw (List.replicate 0 zeroS)) := by
      rw [← zero_cellsVw]
      exact hown0
    have HO : Hid (OwnVw w0 w.heap.size w0.heap.size (some ⟨w.heap.size, 0, none⟩) 0 []) := own_zeroVw 0 ho (Nat.le_refl _) (ho.lt _ rfl).2
    clear hown0 hgrow0 ho
    go_wp2
    refine wp_loop_rounds 1 ?_
    rw [rounds_succ]
    go_wp2
    go_ret
    exact ⟨_, _, [], rfl, rfl, HO.out, hB⟩
  · have hbB : b < w.heap.size := rangeV_lt (hcell 0 hpos).1
    go_enter Tryz.func17, Tryz.ntmps17
    go_wp2_with (at_make; refine wpList_make_full _ rfl _ _ 24 rfl w.heap.size 41 i0 (.agg zeroS.cells.toArray) 4 Tryz.underlying24 hi hz0 hz1 _ _ _ _ rs.length rfl rfl rfl rfl (by rw [hz2]; omega) (by simp [maxLen]; omega) (Nat.le_refl _) ?_)
    intro w0 hown0 hgrow0
    have hb0 : Below w.heap.size w w0 := (Below.refl _ _).grown hgrow0 (Nat.le_refl _) (fun k h => by cases h)
    have ho : w0.ownsRow w.heap.size 41 4 (.slice (some ⟨w.heap.size, 0, none⟩) rs.length rs.length) rs.length (cellsVw (List.replicate rs.length zeroS)) := by
      rw [← zero_cellsVw]
      exact hown0
    have HO : Hid (OwnVw w0 w.heap.size w0.heap.size (some ⟨w.heap.size, 0, none⟩) rs.length (List.replicate rs.length zeroS)) := own_zeroVw _ ho (Nat.le_refl _) (ho.lt _ rfl).2
    clear hown0 hgrow0 ho
    go_wp2
    go_loopw [4] (fun i wr => ∃ (k : Nat) (ts : List SlotA), k ≤ rs.length ∧ i = .int .i64 k ∧ Hid (CameV rs ts k) ∧ Hid (OwnVw wr w.heap.size wr.heap.size (some ⟨w.heap.size, 0, none⟩) rs.length (ts ++ List.replicate (rs.length - k) zeroS)) ∧ Below w.heap.size w wr)
      (fun i _ => rs.length - (RowKit.intOf i).toNat)
    case atStart => exact ⟨0, [], Nat.zero_le _, rfl, cameV_none rs, HO, hb0⟩
    case round =>
      obtain ⟨k, ts, hk, rfl, hc, hown, hnx⟩ := hrel
      by_cases hlt : k < rs.length
      · obtain ⟨c0, c1⟩ := hcell k hlt
        have HR : Hid (wr.rangeAt b (off + k * 4) (rs.getD k zeroS).cells) := rangeAt_belowV c0 hnx hbB
        have hrd : (rs.getD k zeroS).reads wr := ReadsO.below c1 hnx
        have hsh : (rs.getD k zeroS).short 1048576 := hs _ (slotD_mem rs k hlt)
        have C := toSlot_own (rs.getD k zeroS) wr hrd (Nat.le_trans hsh.1 (by decide)) (Nat.le_trans hsh.2 (by decide))
        have HS : Hid (∀ q : SlotA, q.v = (rs.getD k zeroS).v → CameV rs (ts ++ [q]) (k + 1)) := fun q hq => hc.out.snoc hlt hq
        have HP : Hid (ts ++ List.replicate (rs.length - k) zeroS = ts ++ zeroS :: List.replicate (rs.length - (k + 1)) zeroS ∧ (ts ++ zeroS :: List.replicate (rs.length - (k + 1)) zeroS).length = rs.length ∧ ts.length = k) := by
          have e : rs.length - k = (rs.length - (k + 1)) + 1 := by omega
          refine ⟨by rw [e, List.replicate_succ], ?_, hc.out.1⟩
          have := hc.out.1
          simp
          omega
        clear c0 c1 hcell hb0 HO hs hrd hsh
        generalize rs.getD k zeroS = z at *
        go_wp2_with (first | (guard_target = wpList _ _ _ (Oper.mk (some 19) _ _ _ _ _ :: _) _ _; refine wpList_load_mid rfl 84 (.tmp 18) rfl b (off + k * 4) rfl z.cells _ HR.out Tryz.underlying84 rfl HI.out ?_) | fail)
        refine C.mono ?_
        clear C HR
        rintro e w1 ⟨q, rfl, hq, hqo, hb1⟩
        have hs1 := hb1.size
        have ho1 := hown.out.below hb1
        rw [HP.out.1] at ho1
        obtain ⟨W2, hW2, ho2, ht2, hs2⟩ := ho1.fill q hqo (Nat.le_refl _) (by have := hnx.size; omega) (Nat.le_refl _)
        rw [HP.out.2.2] at hW2
        have HT : Hid (w1.there w.heap.size (k * 4) 4) := (row_slot ho1.row rfl k (by rw [HP.out.2.1]; exact hlt)).2
        have hB2 : Below w.heap.size w W2 := (hnx.trans (hb1.mono hnx.size)).trans ((ht2.within (lo := w.heap.size) (hi := w.heap.size + 1) (fun j hj => by obtain rfl := List.mem_singleton.1 hj; omega)).below (Nat.le_refl _) (by have := hnx.size; omega))
        have HH : Hid (OwnVw W2 w.heap.size W2.heap.size (some ⟨w.heap.size, 0, none⟩) rs.length ((ts ++ [q]) ++ List.replicate (rs.length - (k + 1)) zeroS)) := by
          have := ho2.widen (Nat.le_refl _) (show max wr.heap.size w1.heap.size ≤ W2.heap.size by omega) (Nat.le_refl _)
          rw [List.append_assoc, List.singleton_append]
          exact this
        have HB : Hid _ := hB2
        have HC := HS.out q hq.out
        have HO1 := slot_oneV q
        clear ho1 ho2 ht2 hs2 hB2 hqo hb1 hnx hown hq HS hs1
        go_wp2_with (first | (guard_target = wpList _ _ _ (Oper.mk none (Op.store _ (Operand.tmp 21) _) _ _ _ _ :: _) _ _; refine wpList_store_mid rfl 41 (.tmp 21) (.tmp 20) rfl w.heap.size (k * 4) q.cells.toArray rfl rfl HT.out HJ.out HO1 ?_) | fail)
        rw [hW2.out]
        go_roundw
        case rel => exact ⟨k + 1, ts ++ [q], by omega, by go_num, HC, HH, HB.out⟩
        case measure => simp [RowKit.intOf]; omega
      · have HE : Hid (ts.map SlotA.v = rs.map SlotA.v ∧ OwnVw wr w.heap.size wr.heap.size (some ⟨w.heap.size, 0, none⟩) rs.length ts ∧ ts.length = rs.length) := by
          have e : k = rs.length := by omega
          rw [e] at hown hc
          rw [Nat.sub_self, List.replicate_zero, List.append_nil] at hown
          exact ⟨hc.out.all, hown.out, hc.out.1⟩
        go_wp2
        go_ret
        exact ⟨some ⟨w.heap.size, 0, none⟩, rs.length, ts, by rw [HE.out.2.2]; rfl, HE.out.1, HE.out.2.1, hnx⟩

theorem mapVw_nil {ts : List SlotA} (h : ts.map SlotA.v = ([] : List SlotA).map SlotA.v) : ts = [] := by simpa using h
theorem mapVw_len {rs ts : List SlotA} (h : ts.map SlotA.v = rs.map SlotA.v) : ts.length = rs.length := by simpa using congrArg List.length h
theorem mapVw_at {rs ts : List SlotA} (h : ts.map SlotA.v = rs.map SlotA.v) (k : Nat) (hk : k < rs.length) : (ts.getD k zeroS).v = (rs.getD k zeroS).v := by
  have hk' : k < ts.length := by rw [mapVw_len h]; exact hk
  have := congrArg (fun x => x[k]?) h
  simpa [List.getD, hk, hk'] using this

set_option maxHeartbeats 1000000 in
set_option maxRecDepth 100000 in
theorem eqSlotS_same (a b : Option Addr) (ca cb : Nat) (rs ts : List SlotA) (he : ts.map SlotA.v = rs.map SlotA.v) (w : World) (ha : ReadsVw w a rs) (hb : ReadsVw w b ts) (hl : rs.length ≤ 1099511627776) (hs : ∀ r ∈ rs, r.short 1099511627776) :
    Calls Tryz.prog 20 #[.slice a rs.length ca, .slice b ts.length cb] w fun e w' => e = .returned (.bool true) ∧ Below w.heap.size w w' := by
  rcases ha.cases with rfl | ⟨b1, o1, rfl, hpos, hc1⟩
  · obtain rfl := mapVw_nil he
    go_enter Tryz.func20, Tryz.ntmps20
    go_wp2
    refine wp_loop_rounds 1 ?_
    rw [rounds_succ]
    go_wp2
    go_ret
    exact ⟨rfl, Below.refl _ _⟩
  · have hlen := mapVw_len he
    rcases hb.cases with rfl | ⟨b2, o2, rfl, _, hc2⟩
    · simp at hlen; omega
    · have HV : Hid (∀ k, k < rs.length → (ts.getD k zeroS).v = (rs.getD k zeroS).v) := fun k hk => mapVw_at he k hk
      have HS : Hid (∀ k, k < rs.length → (rs.getD k zeroS).short 1099511627776) := fun k hk => hs _ (slotD_mem rs k hk)
      have HI : Hid ((Tryz.prog.info? 41).map (·.size) = some 4) := by rw [Hid]; kernel_rfl
      have hu := Tryz.underlying41
      rw [hlen] at hc2 ⊢
      clear he hs hlen
      go_enter Tryz.func20, Tryz.ntmps20
      go_wp2
      go_loopw [5] (fun i wr => ∃ k : Nat, k ≤ rs.length ∧ i = .int .i64 k ∧ Below w.heap.size w wr) (fun i _ => rs.length - (RowKit.intOf i).toNat)
      case atStart => exact ⟨0, Nat.zero_le _, rfl, Below.refl _ _⟩
      case round =>
        obtain ⟨k, hk, rfl, hbl⟩ := hrel
        by_cases hlt : k < rs.length
        · obtain ⟨h1, r1⟩ := hc1 k hlt
          obtain ⟨h2, r2⟩ := hc2 k hlt
          have hv := HV.out k hlt
          have hsh := HS.out k hlt
          clear hc1 hc2
          generalize rs.getD k zeroS = z at *
          generalize ts.getD k zeroS = y at *
          have HR : Hid (∀ w1, Below w.heap.size w w1 → w1.rangeAt b1 (o1 + k * 4) z.cells ∧ w1.rangeAt b2 (o2 + k * 4) y.cells) := fun w1 hh => ⟨range_belowV h1 hh, range_belowV h2 hh⟩
          have HD : Hid (∀ w1, Below w.heap.size w w1 → z.reads w1 ∧ y.reads w1) := fun w1 hh => ⟨ReadsO.below r1 hh, ReadsO.below r2 hh⟩
          clear h1 h2 r1 r2
          go_wp2_with fail
          refine wp_region_held_drew (S := fun w' => w'.rangeAt b1 (o1 + k * 4) z.cells ∧ w'.rangeAt b2 (o2 + k * 4) y.cells) (by kernel_rfl) ?_ (fun hHeld => ?_)
          · exact HR.out _ hbl.drew
          refine wpAnyH_take (i := 0) (v := .slice (some ⟨b1, o1, none⟩) rs.length ca) rfl (by kernel_rfl) (by kernel_rfl) (by kernel_rfl) (fun _ _ _ h => h) (Or.inl ⟨by rfl, ?_⟩) hHeld ?_
          · intro w' hSw
            go_simp <;> rfl
          try simp only [Act.put, List.getElem_toArray, List.getElem_cons_zero, List.setIfInBounds_toArray, List.set_cons_zero, List.set_cons_succ]
          refine wpAnyH_take (i := 1) (v := .int .i64 k) rfl (by kernel_rfl) (by kernel_rfl) (by kernel_rfl) (fun _ _ _ h => h) (Or.inl ⟨by rfl, ?_⟩) hHeld ?_
          · intro w' hSw
            go_simp <;> rfl
          try simp only [Act.put, List.getElem_toArray, List.getElem_cons_zero, List.getElem_cons_succ, List.setIfInBounds_toArray, List.set_cons_zero, List.set_cons_succ]
          refine wpAnyH_take (i := 2) (v := .pointer (some ⟨b1, o1 + k * 4, none⟩)) rfl (by kernel_rfl) (by kernel_rfl) (by kernel_rfl) (fun _ _ _ h => h) (Or.inl ⟨by rfl, ?_⟩) hHeld ?_
          · intro w' hSw
            go_simp <;> rfl
          try simp only [Act.put, List.getElem_toArray, List.getElem_cons_zero, List.getElem_cons_succ, List.setIfInBounds_toArray, List.set_cons_zero, List.set_cons_succ]
          refine wpAnyH_take (i := 3) rfl (by kernel_rfl) (by kernel_rfl) (by kernel_rfl) (fun _ _ _ h => h) (yieldsIf_load_mid (by rfl) _ _ rfl _ _ rfl z.cells _ (fun _ h => h.1) Tryz.underlying41 rfl HI.out) hHeld ?_
          try simp only [Act.put, List.getElem_toArray, List.getElem_cons_zero, List.getElem_cons_succ, List.setIfInBounds_toArray, List.set_cons_zero, List.set_cons_succ]
          refine wpAnyH_take (i := 4) (v := .slice (some ⟨b2, o2, none⟩) rs.length cb) rfl (by kernel_rfl) (by kernel_rfl) (by kernel_rfl) (fun _ _ _ h => h) (Or.inl ⟨by rfl, ?_⟩) hHeld ?_
          · intro w' hSw
            go_simp <;> rfl
          try simp only [Act.put, List.getElem_toArray, List.getElem_cons_zero, List.getElem_cons_succ, List.setIfInBounds_toArray, List.set_cons_zero, List.set_cons_succ]
          refine wpAnyH_take (i := 5) (v := .int .i64 k) rfl (by kernel_rfl) (by kernel_rfl) (by kernel_rfl) (fun _ _ _ h => h) (Or.inl ⟨by rfl, ?_⟩) hHeld ?_
          · intro w' hSw
            go_simp <;> rfl
          try simp only [Act.put, List.getElem_toArray, List.getElem_cons_zero, List.getElem_cons_succ, List.setIfInBounds_toArray, List.set_cons_zero, List.set_cons_succ]
          refine wpAnyH_take (i := 6) (v := .pointer (some ⟨b2, o2 + k * 4, none⟩)) rfl (by kernel_rfl) (by kernel_rfl) (by kernel_rfl) (fun _ _ _ h => h) (Or.inl ⟨by rfl, ?_⟩) hHeld ?_
          · intro w' hSw
            go_simp <;> rfl
          try simp only [Act.put, List.getElem_toArray, List.getElem_cons_zero, List.getElem_cons_succ, List.setIfInBounds_toArray, List.set_cons_zero, List.set_cons_succ]
          refine wpAnyH_take (i := 7) rfl (by kernel_rfl) (by kernel_rfl) (by kernel_rfl) (fun _ _ _ h => h) (yieldsIf_load_mid (by rfl) _ _ rfl _ _ rfl y.cells _ (fun _ h => h.2) Tryz.underlying41 rfl HI.out) hHeld ?_
          try simp only [Act.put, List.getElem_toArray, List.getElem_cons_zero, List.getElem_cons_succ, List.setIfInBounds_toArray, List.set_cons_zero, List.set_cons_succ]
          refine wpAnyH_ready (rs := [8]) (by kernel_rfl) (by simp) ?_
          refine AllReadyH.cons rfl (fun K hK => ?_) AllReadyH.nil
          go_simp
          refine (eqSlot_same z y hv _ (HD.out _ hbl.drew).1 (HD.out _ hbl.drew).2 hsh.1 hsh.2).mono ?_
          rintro e w2 ⟨rfl, hb2⟩
          have hw2 : Below w.heap.size w w2 := (hbl.drew).trans (hb2.mono hbl.size)
          refine hK.out _ _ (HR.out _ hw2) (fun hHeld => ?_)
          clear hK K
          try simp only [Act.put, List.getElem_toArray, List.getElem_cons_zero, List.getElem_cons_succ, List.setIfInBounds_toArray, List.set_cons_zero, List.set_cons_succ]
          refine wpAnyH_take (i := 9) (v := .bool false) rfl (by kernel_rfl) (by kernel_rfl) (by kernel_rfl) (fun _ _ _ h => h) (Or.inl ⟨by rfl, ?_⟩) hHeld ?_
          · intro w' hSw
            go_simp <;> rfl
          try simp only [Act.put, List.getElem_toArray, List.getElem_cons_zero, List.getElem_cons_succ, List.setIfInBounds_toArray, List.set_cons_zero, List.set_cons_succ]
          refine wpAnyH_done (by kernel_rfl) ?_ _
          go_wp2_with fail
          go_roundw
          case rel => exact ⟨k + 1, by omega, by go_num, hw2⟩
          case measure => simp [RowKit.intOf]; omega
        · go_wp2
          go_ret
          exact ⟨rfl, hbl⟩

set_option maxHeartbeats 1000000 in
set_option maxRecDepth 100000 in
theorem szSlotS_any (a : Option Addr) (cap : Nat) (rs : List SlotA) (left : Int) (w : World) (hr : ReadsVw w a rs) (hn : rs.length ≤ 9223372036854775807) (hs : ∀ r ∈ rs, r.short 9223372036854775807) (hl : 0 ≤ left ∧ left ≤ 1048576) :
    Calls Tryz.prog 15 #[.slice a rs.length cap, .int .i64 left] w fun e w' => ∃ z : Int, e = .returned (.int .i64 z) ∧ (z < 0 ∨ (0 ≤ z ∧ z ≤ left ∧ rs.length ≤ 1048576 ∧ ∀ r ∈ rs, r.short 1048576)) ∧ Below w.heap.size w w' := by
  have HI : Hid ((Tryz.prog.info? 84).map (·.size) = some 4) := by rw [Hid]; kernel_rfl
  by_cases hle : left - rs.length < 0
  · go_enter Tryz.func15, Tryz.ntmps15
    go_wp2
    go_ret
    exact ⟨-1, rfl, .inl (by omega), Below.refl _ _⟩
  have HS : Hid (∀ k, k < rs.length → (rs.getD k zeroS).short 9223372036854775807) := fun k hk => hs _ (slotD_mem rs k hk)
  have hlen : rs.length ≤ 1048576 := by omega
  have HC : Hid (∀ k, k < rs.length → ∃ b off, a = some ⟨b, off, none⟩ ∧ w.rangeAt b (off + k * 4) (rs.getD k zeroS).cells) := fun k hk => by
    obtain ⟨b, off, ha, hc⟩ := hr (by intro e; rw [e] at hk; simp at hk)
    exact ⟨b, off, ha, (hc k hk).1⟩
  have HA : Hid ((∀ k, k < rs.length → (rs.getD k zeroS).short 1048576) → ∀ r ∈ rs, r.short 1048576) := by
    intro h r hr
    obtain ⟨k, hk, rfl⟩ := List.getElem_of_mem hr
    have := h k hk
    simpa [List.getD, hk] using this
  clear hr hs
  go_enter Tryz.func15, Tryz.ntmps15
  go_wp2
  go_loopw [1, 5] (fun v i wr => ∃ (k : Nat) (z : Int), k ≤ rs.length ∧ i = .int .i64 k ∧ v = .int .i64 z ∧ 0 ≤ z ∧ z ≤ left ∧ Hid (∀ j, j < k → (rs.getD j zeroS).short 1048576) ∧ Below w.heap.size w wr) (fun _ i _ => rs.length - (RowKit.intOf i).toNat)
  case atStart => exact ⟨0, left - rs.length, Nat.zero_le _, rfl, by go_num, by omega, by omega, fun j hj => by omega, Below.refl _ _⟩
  case round =>
    obtain ⟨k, z, hk, rfl, rfl, hz0, hz1, hsh, hbl⟩ := hrel
    by_cases hlt : k < rs.length
    · obtain ⟨b, off, rfl, hcell⟩ := HC.out k hlt
      have HR : Hid (wr.rangeAt b (off + k * 4) (rs.getD k zeroS).cells) := range_belowV hcell hbl
      have C := szSlot_any (rs.getD k zeroS) z wr (fun s hs => by rw [List.mem_singleton.1 hs]; exact HS.out k hlt) (by omega)
      clear hcell HC
      have HN : Hid ((rs.getD k zeroS).short 1048576 → ∀ j, j < k + 1 → (rs.getD j zeroS).short 1048576) := fun h j hj => by
        by_cases e : j = k
        · rw [e]; exact h
        · exact hsh.out j (by omega)
      generalize rs.getD k zeroS = y at *
      go_wp2_with (first | (guard_target = wpList _ _ _ (Oper.mk (some 21) _ _ _ _ _ :: _) _ _; refine wpList_load_mid rfl 84 (.tmp 20) rfl b (off + k * 4) rfl y.cells _ HR.out Tryz.underlying84 rfl HI.out ?_) | fail)
      refine C.mono ?_
      clear C HR
      rintro e w1 ⟨z1, rfl, hz, hb1⟩
      have hB1 : Below w.heap.size w w1 := hbl.trans (hb1.mono hbl.size)
      rcases hz with hneg | ⟨g0, g1, g2x⟩
      · go_wp2
        go_ret
        exact ⟨-1, rfl, .inl (by omega), hB1⟩
      · have hzn : ¬ z1 < 0 := by omega
        have HH := HN.out (g2x _ (List.mem_singleton.2 rfl))
        go_wp2
        go_roundw
        case rel => exact ⟨k + 1, z1, by omega, by go_num, rfl, g0, by omega, HH, hB1⟩
        case measure => simp [RowKit.intOf]; omega
    · have HE : Hid (∀ r ∈ rs, r.short 1048576) := HA.out (fun j hj => hsh.out j (by omega))
      go_wp2
      go_ret
      exact ⟨z, rfl, .inr ⟨hz0, hz1, hlen, HE.out⟩, hbl⟩

end Go.Proofs.YtajcffchopcamaaGreatDoor

/- Plain mathematics of numbers in bytes: groups of seven bits, the lowest first. -/
namespace Go.Proofs.YtajcffchopcamaaGreatDoor

def groupsN : Nat → Nat → List Int
  | 0, m => [(m : Int)]
  | f + 1, m => if m < 128 then [(m : Int)] else ((m % 128 + 128 : Nat) : Int) :: groupsN f (m / 128)
def groups (m : Nat) : List Int := groupsN 64 m

/-- A number beyond the greatest counts as that. -/
def clampI (n : Int) : Int := if n > 1000000000000 then 1000000000000 else if n < -1000000000000 then -1000000000000 else n
def zig (n : Int) : Nat := if 0 ≤ clampI n then (2 * clampI n).toNat else (-2 * clampI n - 1).toNat
def putOf (n : Int) : List Int := groups (zig n)

end Go.Proofs.YtajcffchopcamaaGreatDoor
