/- Several texts in one, in their order. -/
import Derived.Test.YtoboickdkednkaaGreatDoorPAppendx6
import Derived.Deep.RegionHeld3
import Derived.Test.YtoboickdkednkaaGreatDoorPAppendx5
import Derived.Deep.RegionLaw
import Derived.Deep.DrawnRows
import Derived.Test.YtoboickdkednkaaGreatDoorPAppendx3
import Derived.Test.YtoboickdkednkaaGreatDoorPAppendx2
import Derived.Deep.CutRange
import Derived.Test.YtoboickdkednkaaGreatDoorPAppendx4
/- The walks of laws.toRecS, toLog, szRecS, szLog, eqRecS, eqLog. -/
namespace Go.Proofs.YtoboickdkednkaaGreatDoor
open Go.RowKit

theorem rep_len (n : Nat) (r : RecA) : (List.replicate n r).length = n := by simp
theorem zero_cellsRs (n : Nat) : (madeCells (Value.agg zeroR.cells.toArray).cells (n * 15)).toList = cellsRs (List.replicate n zeroR) := by
  apply List.ext_getElem?
  intro i
  by_cases h : i < n * 15
  · have e := cellsRs_at (List.replicate n zeroR) (i / 15) (i % 15) (by simp; omega) (Nat.mod_lt _ (by omega))
    rw [show i / 15 * 15 + i % 15 = i by omega] at e
    rw [e]
    have hg : (List.replicate n zeroR).getD (i / 15) zeroR = zeroR := by simp [List.getD, show i / 15 < n by omega]
    rw [hg]
    simp only [madeCells, Array.toList_map, List.getElem?_map, Array.toList_range, List.getElem?_range h, Option.map_some]
    have hm : i % 15 < 15 := Nat.mod_lt _ (by omega)
    have hz : ∀ j, j < 15 → some ((Value.agg zeroR.cells.toArray).cells[j]!) = zeroR.cells[j]? := by
      intro j hj
      rcases (by omega : j = 0 ∨ j = 1 ∨ j = 2 ∨ j = 3 ∨ j = 4 ∨ j = 5 ∨ j = 6 ∨ j = 7 ∨ j = 8 ∨ j = 9 ∨ j = 10 ∨ j = 11 ∨ j = 12 ∨ j = 13 ∨ j = 14) with rfl | rfl | rfl | rfl | rfl | rfl | rfl | rfl | rfl | rfl | rfl | rfl | rfl | rfl | rfl <;> rfl
    exact hz _ hm
  · rw [List.getElem?_eq_none (by simp [size_madeCells]; omega), List.getElem?_eq_none (by rw [cellsRs_len]; simp; omega)]
theorem own_zeroRs {w : World} {lo hi g c : Nat} (n : Nat) (h : w.ownsRow lo 39 15 (.slice (some ⟨g, 0, none⟩) n c) n (cellsRs (List.replicate n zeroR))) (ht : hi ≤ w.heap.size) (hg : g < hi) : OwnRs w lo hi (some ⟨g, 0, none⟩) c (List.replicate n zeroR) := by
  refine ⟨by rw [rep_len]; exact h, ht, fun k hk => by cases hk; exact hg, fun r hr => ?_, ?_⟩
  · rw [(List.mem_replicate.1 hr).2]
    exact own_zeroR w lo hi ht
  · have e : (List.replicate n zeroR).flatMap RecA.blocks = [] := by
      rw [List.flatMap_eq_nil_iff]
      intro r hr
      rw [(List.mem_replicate.1 hr).2]
      rfl
    rw [e]
    simp [Value.ownBlock]

/-- The first k of a row have come. -/
def Came (rs ts : List RecA) (k : Nat) : Prop := ts.length = k ∧ ts.map RecA.v = (rs.take k).map RecA.v
theorem came_none (rs : List RecA) : Came rs [] 0 := ⟨rfl, by simp⟩
theorem Came.snoc {rs ts : List RecA} {k : Nat} (h : Came rs ts k) (hk : k < rs.length) {q : RecA} (hq : q.v = (rs.getD k zeroR).v) : Came rs (ts ++ [q]) (k + 1) := by
  refine ⟨by simp [h.1], ?_⟩
  have e : rs.getD k zeroR = rs[k] := by simp [List.getD, hk]
  rw [List.map_append, h.2, List.take_succ_eq_append_getElem hk, List.map_append, List.map_singleton, List.map_singleton, hq, e]
theorem Came.all {rs ts : List RecA} (h : Came rs ts rs.length) : ts.map RecA.v = rs.map RecA.v := by
  have := h.2
  rwa [List.take_length] at this
theorem range_below {w w' : World} {b o : Nat} {r : RecA} (h : w.rangeAt b o r.cells) (hb : Below w.heap.size w w') : w'.rangeAt b o r.cells := rangeAt_below h hb (rangeR_lt h)

set_option maxHeartbeats 1000000 in
set_option maxRecDepth 100000 in
theorem toRecS_any (a : Option Addr) (cap : Nat) (rs : List RecA) (w : World) (hr : ReadsRs w a rs) (hl : rs.length ≤ 1048576) (hs : ∀ r ∈ rs, r.short 1048576) :
    Calls Tryz.prog 49 #[.slice a rs.length cap] w fun e w' => ∃ a' c' ts, e = .returned (.slice a' ts.length c') ∧ Hid (ts.map RecA.v = rs.map RecA.v) ∧ OwnRs w' w.heap.size w'.heap.size a' c' ts ∧ Below w.heap.size w w' := by
  obtain ⟨i0, hi, hz0, hz1, hz2⟩ := info_parts Tryz.infoRec
  have HI : Hid ((Tryz.prog.info? 52).map (·.size) = some 15) := by rw [Hid]; kernel_rfl
  have HJ : Hid ((Tryz.prog.info? 39).map (·.size) = some 15) := by rw [Hid]; kernel_rfl
  rcases hr.cases with rfl | ⟨b, off, rfl, hpos, hcell⟩
  · go_enter Tryz.func49, Tryz.ntmps49
    go_wp2_with (at_make; refine wpList_make_full _ rfl _ _ 24 rfl w.heap.size 39 i0 (.agg zeroR.cells.toArray) 15 Tryz.underlying24 hi hz0 hz1 _ _ _ _ 0 rfl rfl (by simp) (by simp) (by omega) (by simp [maxLen]) (Nat.le_refl _) ?_)
    intro w0 hown0 hgrow0
    have hB : Below w.heap.size w w0 := (Below.refl _ _).grown hgrow0 (Nat.le_refl _) (fun k h => by cases h)
    have ho : w0.ownsRow w.heap.size 39 15 (.slice (some ⟨w.heap.size, 0, none⟩) 0 0) 0 (cellsRs (List.replicate 0 zeroR)) := by
      rw [← zero_cellsRs]
      exact hown0
    have HO : Hid (OwnRs w0 w.heap.size w0.heap.size (some ⟨w.heap.size, 0, none⟩) 0 []) := own_zeroRs 0 ho (Nat.le_refl _) (ho.lt _ rfl).2
    clear hown0 hgrow0 ho
    go_wp2
    refine wp_loop_rounds 1 ?_
    rw [rounds_succ]
    go_wp2
    go_ret
    exact ⟨_, _, [], rfl, rfl, HO.out, hB⟩
  · have hbB : b < w.heap.size := rangeR_lt (hcell 0 hpos).1
    go_enter Tryz.func49, Tryz.ntmps49
    go_wp2_with (at_make; refine wpList_make_full _ rfl _ _ 24 rfl w.heap.size 39 i0 (.agg zeroR.cells.toArray) 15 Tryz.underlying24 hi hz0 hz1 _ _ _ _ rs.length rfl rfl rfl rfl (by rw [hz2]; omega) (by simp [maxLen]; omega) (Nat.le_refl _) ?_)
    intro w0 hown0 hgrow0
    have hb0 : Below w.heap.size w w0 := (Below.refl _ _).grown hgrow0 (Nat.le_refl _) (fun k h => by cases h)
    have ho : w0.ownsRow w.heap.size 39 15 (.slice (some ⟨w.heap.size, 0, none⟩) rs.length rs.length) rs.length (cellsRs (List.replicate rs.length zeroR)) := by
      rw [← zero_cellsRs]
      exact hown0
    have HO : Hid (OwnRs w0 w.heap.size w0.heap.size (some ⟨w.heap.size, 0, none⟩) rs.length (List.replicate rs.length zeroR)) := own_zeroRs _ ho (Nat.le_refl _) (ho.lt _ rfl).2
    clear hown0 hgrow0 ho
    go_wp2
    go_loopw [4] (fun i wr => ∃ (k : Nat) (ts : List RecA), k ≤ rs.length ∧ i = .int .i64 k ∧ Hid (Came rs ts k) ∧ Hid (OwnRs wr w.heap.size wr.heap.size (some ⟨w.heap.size, 0, none⟩) rs.length (ts ++ List.replicate (rs.length - k) zeroR)) ∧ Below w.heap.size w wr)
      (fun i _ => rs.length - (intOf i).toNat)
    case atStart => exact ⟨0, [], Nat.zero_le _, rfl, came_none rs, HO, hb0⟩
    case round =>
      obtain ⟨k, ts, hk, rfl, hc, hown, hnx⟩ := hrel
      by_cases hlt : k < rs.length
      · obtain ⟨c0, c1⟩ := hcell k hlt
        have HR : Hid (wr.rangeAt b (off + k * 15) (rs.getD k zeroR).cells) := rangeAt_below c0 hnx hbB
        have hrd : (rs.getD k zeroR).reads wr := c1.below hnx
        have hsh : (rs.getD k zeroR).short 1048576 := hs _ (recD_mem rs k hlt)
        have C := toRec_law (rs.getD k zeroR) wr hrd hsh
        have HS : Hid (∀ q : RecA, q.v = (rs.getD k zeroR).v → Came rs (ts ++ [q]) (k + 1)) := fun q hq => hc.out.snoc hlt hq
        have HP : Hid (ts ++ List.replicate (rs.length - k) zeroR = ts ++ zeroR :: List.replicate (rs.length - (k + 1)) zeroR ∧ (ts ++ zeroR :: List.replicate (rs.length - (k + 1)) zeroR).length = rs.length ∧ ts.length = k) := by
          have e : rs.length - k = (rs.length - (k + 1)) + 1 := by omega
          refine ⟨by rw [e, List.replicate_succ], ?_, hc.out.1⟩
          have := hc.out.1
          simp
          omega
        clear c0 c1 hcell hb0 HO hs hrd hsh
        generalize rs.getD k zeroR = z at *
        go_wp2_with (first | (guard_target = wpList _ _ _ (Oper.mk (some 19) _ _ _ _ _ :: _) _ _; refine wpList_load_mid rfl 52 (.tmp 18) rfl b (off + k * 15) rfl z.cells _ HR.out Tryz.underlying52 rfl HI.out ?_) | fail)
        refine C.mono ?_
        clear C HR
        rintro e w1 ⟨q, rfl, hq, hqo, hb1⟩
        have hs1 := hb1.size
        have ho1 := hown.out.below hb1
        rw [HP.out.1] at ho1
        obtain ⟨W2, hW2, ho2, ht2, hs2⟩ := ho1.fill q hqo (Nat.le_refl _) (by have := hnx.size; omega) (Nat.le_refl _)
        rw [HP.out.2.2] at hW2
        have HT : Hid (w1.there w.heap.size (k * 15) 15) := (row_rec ho1.row rfl k (by rw [HP.out.2.1]; exact hlt)).2
        have hB2 : Below w.heap.size w W2 := (hnx.trans (hb1.mono hnx.size)).trans ((ht2.within (lo := w.heap.size) (hi := w.heap.size + 1) (fun j hj => by obtain rfl := List.mem_singleton.1 hj; omega)).below (Nat.le_refl _) (by have := hnx.size; omega))
        have HH : Hid (OwnRs W2 w.heap.size W2.heap.size (some ⟨w.heap.size, 0, none⟩) rs.length ((ts ++ [q]) ++ List.replicate (rs.length - (k + 1)) zeroR)) := by
          have := ho2.widen (Nat.le_refl _) (show max wr.heap.size w1.heap.size ≤ W2.heap.size by omega) (Nat.le_refl _)
          rw [List.append_assoc, List.singleton_append]
          exact this
        have HB : Hid _ := hB2
        have HC := HS.out q hq.out
        have HO1 := rec_one q
        clear ho1 ho2 ht2 hs2 hB2 hqo hb1 hnx hown hq HS hs1
        go_wp2_with (first | (guard_target = wpList _ _ _ (Oper.mk none (Op.store _ (Operand.tmp 21) _) _ _ _ _ :: _) _ _; refine wpList_store_mid rfl 39 (.tmp 21) (.tmp 20) rfl w.heap.size (k * 15) q.cells.toArray rfl rfl HT.out HJ.out HO1 ?_) | fail)
        rw [hW2.out]
        go_roundw
        case rel => exact ⟨k + 1, ts ++ [q], by omega, by go_num, HC, HH, HB.out⟩
        case measure => simp [intOf]; omega
      · have HE : Hid (ts.map RecA.v = rs.map RecA.v ∧ OwnRs wr w.heap.size wr.heap.size (some ⟨w.heap.size, 0, none⟩) rs.length ts ∧ ts.length = rs.length) := by
          have e : k = rs.length := by omega
          rw [e] at hown hc
          rw [Nat.sub_self, List.replicate_zero, List.append_nil] at hown
          exact ⟨hc.out.all, hown.out, hc.out.1⟩
        go_wp2
        go_ret
        exact ⟨some ⟨w.heap.size, 0, none⟩, rs.length, ts, by rw [HE.out.2.2]; rfl, HE.out.1, HE.out.2.1, hnx⟩

theorem mapV_nil {ts : List RecA} (h : ts.map RecA.v = ([] : List RecA).map RecA.v) : ts = [] := by simpa using h
set_option maxHeartbeats 1000000 in
set_option maxRecDepth 100000 in
theorem toLog_any (l : LogA) (w : World) (hr : l.reads w) (hl : l.short 1048576) :
    Calls Tryz.prog 20 #[.agg l.cells.toArray] w fun e w' => ∃ t : LogA, e = .returned (.agg t.cells.toArray) ∧ Hid (t.v = l.v) ∧ t.own w' w.heap.size w'.heap.size ∧ Below w.heap.size w w' := by
  obtain ⟨rs, s, a, c⟩ := l
  obtain ⟨hl1, hl2⟩ := hl
  simp only [LogA.reads, LogA.cells, LogA.own] at *
  obtain ⟨W, hW, b0, b1, b2, hbW, hsW⟩ := boxes3 w [.slice a rs.length c, .int .i64 s] [.slice none 0 0, .int .i64 0] [.slice none 0 0, .int .i64 0] 46 26 26
  have C := toRecS_any a c rs W (hr.below hbW) hl1 hl2
  go_enter Tryz.func20, Tryz.ntmps20
  go_wp2_with fail
  rw [hW.out]
  clear hW
  have hs0 : w.heap.size + 1 + 1 < W.heap.size := by omega
  clear hsW
  refine C.mono ?_
  clear C
  rintro e w1 ⟨a', c', ts, rfl, hv, ho1, hb1⟩
  have hs1 := hb1.size
  have b01 := b0.below hb1 b0.lt
  have b11 := b1.below hb1 b1.lt
  have b21 := b2.below hb1 b2.lt
  have x1 := b01.cell 1 _ rfl
  have y0 := b21.cell 0 _ rfl
  have y1 := b21.cell 1 _ rfl
  have f0 := b21.frozen 0
  have f1 := b21.frozen 1
  have z0 := b11.cell 0 _ rfl
  have z1 := b11.cell 1 _ rfl
  have g0 := b11.frozen 0
  have g1 := b11.frozen 1
  obtain ⟨W2, hW2, b22, hw2, hs2⟩ := box_set b21 0 (.slice a' ts.length c')
  obtain ⟨W3, hW3, b23, hw3, hs3⟩ := box_set b22 1 (.int .i64 s)
  have b13 := (b11.within hw2 (by omega)).within hw3 (by omega)
  obtain ⟨W4, hW4, b14, hw4, hs4⟩ := box_set b13 0 (.slice a' ts.length c')
  obtain ⟨W5, hW5, b15, hw5, hs5⟩ := box_set b14 1 (.int .i64 s)
  simp only [List.set] at b15
  have q0 := b15.cell 0 _ rfl
  have q1 := b15.cell 1 _ rfl
  have hB5 : Below w.heap.size w W5 := ((((hbW.trans (hb1.mono (by omega))).trans (hw2.below (by omega) (by omega))).trans (hw3.below (by omega) (by omega))).trans (hw4.below (by omega) (by omega))).trans (hw5.below (by omega) (by omega))
  have ho5 := ((((ho1.within hw2 (.inr (by omega))).within hw3 (.inr (by omega))).within hw4 (.inr (by omega))).within hw5 (.inr (by omega))).widen (show w.heap.size ≤ W.heap.size by omega) (show w1.heap.size ≤ W5.heap.size by omega) (Nat.le_refl _)
  have HH : Hid (_ ∧ _ ∧ _) := ⟨ho5, hB5, hv.out⟩
  clear ho5 hB5 hv ho1 hb1 hw2 hw3 hw4 hw5 hs2 hs3 hs4 hs5 b01 b11 b21 b22 b23 b13 b14 b15 b0 b1 b2 hbW
  have h34 : Hid (((((w1.setCell ⟨w.heap.size + 1 + 1, 0, none⟩ (.slice a' ts.length c')).setCell ⟨w.heap.size + 1 + 1, 1, none⟩ (.int .i64 s)).setCell ⟨w.heap.size + 1, 0, none⟩ (.slice a' ts.length c')).setCell ⟨w.heap.size + 1, 1, none⟩ (.int .i64 s)) = W5) := by rw [Hid, hW2.out, hW3.out, hW4.out, hW5.out]
  clear hW2 hW3 hW4 hW5
  go_wp2
  rw [h34.out]
  exact bodyPost_ret (v := .agg #[.slice a' ts.length c', .int .i64 s]) (by simp [results, Tryz.results20, go_sem, q0, q1]) rfl ⟨⟨ts, s, a', c'⟩, rfl, by simp only [Hid, LogA.v]; rw [HH.out.2.2], HH.out.1, HH.out.2.1⟩

set_option maxHeartbeats 1000000 in
set_option maxRecDepth 100000 in
theorem eqRecS_same (a b : Option Addr) (ca cb : Nat) (rs ts : List RecA) (he : ts.map RecA.v = rs.map RecA.v) (w : World) (ha : ReadsRs w a rs) (hb : ReadsRs w b ts) (hl : rs.length ≤ 1099511627776) (hs : ∀ r ∈ rs, r.short 1099511627776) :
    Calls Tryz.prog 52 #[.slice a rs.length ca, .slice b ts.length cb] w fun e w' => e = .returned (.bool true) ∧ Below w.heap.size w w' := by
  rcases ha.cases with rfl | ⟨b1, o1, rfl, hpos, hc1⟩
  · obtain rfl := mapV_nil he
    go_enter Tryz.func52, Tryz.ntmps52
    go_wp2
    refine wp_loop_rounds 1 ?_
    rw [rounds_succ]
    go_wp2
    go_ret
    exact ⟨rfl, Below.refl _ _⟩
  · have hlen := mapV_len he
    rcases hb.cases with rfl | ⟨b2, o2, rfl, _, hc2⟩
    · simp at hlen; omega
    · have HV : Hid (∀ k, k < rs.length → (ts.getD k zeroR).v = (rs.getD k zeroR).v) := fun k hk => mapV_at he k hk
      have HS : Hid (∀ k, k < rs.length → (rs.getD k zeroR).short 1099511627776) := fun k hk => hs _ (recD_mem rs k hk)
      have HI : Hid ((Tryz.prog.info? 39).map (·.size) = some 15) := by rw [Hid]; kernel_rfl
      have hu := Tryz.underlying39
      rw [hlen] at hc2 ⊢
      clear he hs hlen
      go_enter Tryz.func52, Tryz.ntmps52
      go_wp2
      go_loopw [5] (fun i wr => ∃ k : Nat, k ≤ rs.length ∧ i = .int .i64 k ∧ Below w.heap.size w wr) (fun i _ => rs.length - (intOf i).toNat)
      case atStart => exact ⟨0, Nat.zero_le _, rfl, Below.refl _ _⟩
      case round =>
        obtain ⟨k, hk, rfl, hbl⟩ := hrel
        by_cases hlt : k < rs.length
        · obtain ⟨h1, r1⟩ := hc1 k hlt
          obtain ⟨h2, r2⟩ := hc2 k hlt
          have hv := HV.out k hlt
          have hsh := HS.out k hlt
          clear hc1 hc2
          generalize rs.getD k zeroR = z at *
          generalize ts.getD k zeroR = y at *
          have HR : Hid (∀ w1, Below w.heap.size w w1 → w1.rangeAt b1 (o1 + k * 15) z.cells ∧ w1.rangeAt b2 (o2 + k * 15) y.cells) := fun w1 hh => ⟨range_below h1 hh, range_below h2 hh⟩
          have HD : Hid (∀ w1, Below w.heap.size w w1 → z.reads w1 ∧ y.reads w1) := fun w1 hh => ⟨r1.below hh, r2.below hh⟩
          clear h1 h2 r1 r2
          go_wp2_with fail
          refine wp_region_held_drew (S := fun w' => w'.rangeAt b1 (o1 + k * 15) z.cells ∧ w'.rangeAt b2 (o2 + k * 15) y.cells) (by kernel_rfl) ?_ (fun hHeld => ?_)
          · exact HR.out _ hbl.drew
          refine wpAnyH_take (i := 0) (v := .slice (some ⟨b1, o1, none⟩) rs.length ca) rfl (by kernel_rfl) (by kernel_rfl) (by kernel_rfl) (fun _ _ _ h => h) (Or.inl ⟨by rfl, ?_⟩) hHeld ?_
          · intro w' hSw
            go_simp <;> rfl
          try simp only [Act.put, List.getElem_toArray, List.getElem_cons_zero, List.setIfInBounds_toArray, List.set_cons_zero, List.set_cons_succ]
          refine wpAnyH_take (i := 1) (v := .int .i64 k) rfl (by kernel_rfl) (by kernel_rfl) (by kernel_rfl) (fun _ _ _ h => h) (Or.inl ⟨by rfl, ?_⟩) hHeld ?_
          · intro w' hSw
            go_simp <;> rfl
          try simp only [Act.put, List.getElem_toArray, List.getElem_cons_zero, List.getElem_cons_succ, List.setIfInBounds_toArray, List.set_cons_zero, List.set_cons_succ]
          refine wpAnyH_take (i := 2) (v := .pointer (some ⟨b1, o1 + k * 15, none⟩)) rfl (by kernel_rfl) (by kernel_rfl) (by kernel_rfl) (fun _ _ _ h => h) (Or.inl ⟨by rfl, ?_⟩) hHeld ?_
          · intro w' hSw
            go_simp <;> rfl
          try simp only [Act.put, List.getElem_toArray, List.getElem_cons_zero, List.getElem_cons_succ, List.setIfInBounds_toArray, List.set_cons_zero, List.set_cons_succ]
          refine wpAnyH_take (i := 3) rfl (by kernel_rfl) (by kernel_rfl) (by kernel_rfl) (fun _ _ _ h => h) (yieldsIf_load_mid (by rfl) _ _ rfl _ _ rfl z.cells _ (fun _ h => h.1) Tryz.underlying39 rfl HI.out) hHeld ?_
          try simp only [Act.put, List.getElem_toArray, List.getElem_cons_zero, List.getElem_cons_succ, List.setIfInBounds_toArray, List.set_cons_zero, List.set_cons_succ]
          refine wpAnyH_take (i := 4) (v := .slice (some ⟨b2, o2, none⟩) rs.length cb) rfl (by kernel_rfl) (by kernel_rfl) (by kernel_rfl) (fun _ _ _ h => h) (Or.inl ⟨by rfl, ?_⟩) hHeld ?_
          · intro w' hSw
            go_simp <;> rfl
          try simp only [Act.put, List.getElem_toArray, List.getElem_cons_zero, List.getElem_cons_succ, List.setIfInBounds_toArray, List.set_cons_zero, List.set_cons_succ]
          refine wpAnyH_take (i := 5) (v := .int .i64 k) rfl (by kernel_rfl) (by kernel_rfl) (by kernel_rfl) (fun _ _ _ h => h) (Or.inl ⟨by rfl, ?_⟩) hHeld ?_
          · intro w' hSw
            go_simp <;> rfl
          try simp only [Act.put, List.getElem_toArray, List.getElem_cons_zero, List.getElem_cons_succ, List.setIfInBounds_toArray, List.set_cons_zero, List.set_cons_succ]
          refine wpAnyH_take (i := 6) (v := .pointer (some ⟨b2, o2 + k * 15, none⟩)) rfl (by kernel_rfl) (by kernel_rfl) (by kernel_rfl) (fun _ _ _ h => h) (Or.inl ⟨by rfl, ?_⟩) hHeld ?_
          · intro w' hSw
            go_simp <;> rfl
          try simp only [Act.put, List.getElem_toArray, List.getElem_cons_zero, List.getElem_cons_succ, List.setIfInBounds_toArray, List.set_cons_zero, List.set_cons_succ]
          refine wpAnyH_take (i := 7) rfl (by kernel_rfl) (by kernel_rfl) (by kernel_rfl) (fun _ _ _ h => h) (yieldsIf_load_mid (by rfl) _ _ rfl _ _ rfl y.cells _ (fun _ h => h.2) Tryz.underlying39 rfl HI.out) hHeld ?_
          try simp only [Act.put, List.getElem_toArray, List.getElem_cons_zero, List.getElem_cons_succ, List.setIfInBounds_toArray, List.set_cons_zero, List.set_cons_succ]
          refine wpAnyH_ready (rs := [8]) (by kernel_rfl) (by simp) ?_
          refine AllReadyH.cons rfl (fun K hK => ?_) AllReadyH.nil
          go_simp
          refine (eqRec_same z y hv _ (HD.out _ hbl.drew).1 (HD.out _ hbl.drew).2 hsh).mono ?_
          rintro e w2 ⟨rfl, hb2⟩
          have hw2 : Below w.heap.size w w2 := (hbl.drew).trans (hb2.mono hbl.size)
          refine hK.out _ _ (HR.out _ hw2) (fun hHeld => ?_)
          clear hK K
          try simp only [Act.put, List.getElem_toArray, List.getElem_cons_zero, List.getElem_cons_succ, List.setIfInBounds_toArray, List.set_cons_zero, List.set_cons_succ]
          refine wpAnyH_take (i := 9) (v := .bool false) rfl (by kernel_rfl) (by kernel_rfl) (by kernel_rfl) (fun _ _ _ h => h) (Or.inl ⟨by rfl, ?_⟩) hHeld ?_
          · intro w' hSw
            go_simp <;> rfl
          try simp only [Act.put, List.getElem_toArray, List.getElem_cons_zero, List.getElem_cons_succ, List.setIfInBounds_toArray, List.set_cons_zero, List.set_cons_succ]
          refine wpAnyH_done (by kernel_rfl) ?_ _
          go_wp2_with fail
          go_roundw
          case rel => exact ⟨k + 1, by omega, by go_num, hw2⟩
          case measure => simp [intOf]; omega
        · go_wp2
          go_ret
          exact ⟨rfl, hbl⟩

set_option maxHeartbeats 1000000 in
set_option maxRecDepth 100000 in
theorem eqLog_same (l t : LogA) (he : t.v = l.v) (w : World) (hr : l.reads w) (ht : t.reads w) (hl : l.short 1099511627776) :
    Calls Tryz.prog 22 #[.agg l.cells.toArray, .agg t.cells.toArray] w fun e w' => e = .returned (.bool true) ∧ Below w.heap.size w w' := by
  obtain ⟨rs, s, a, c⟩ := l
  obtain ⟨ts, s', a', c'⟩ := t
  obtain ⟨hl1, hl2⟩ := hl
  simp only [LogA.v, LogV.mk.injEq] at he
  obtain ⟨he, rfl⟩ := he
  simp only [LogA.reads, LogA.cells] at *
  obtain ⟨W, hW, b0, b1, hbW, hsW⟩ := boxes2 w [.slice a rs.length c, .int .i64 s'] [.slice a' ts.length c', .int .i64 s'] 26 26
  have C := eqRecS_same a a' c c' rs ts he W (hr.below hbW) (ht.below hbW) hl1 hl2
  clear hsW he hl1 hl2 hr ht
  go_enter Tryz.func22, Tryz.ntmps22
  go_wp2_with fail
  rw [hW.out]
  clear hW
  refine C.mono ?_
  clear C
  rintro e w1 ⟨rfl, hb1⟩
  have x1 := (b0.below hb1 b0.lt).cell 1 _ rfl
  have y1 := (b1.below hb1 b1.lt).cell 1 _ rfl
  clear b0 b1
  go_wp2
  go_ret
  exact ⟨rfl, hbW.trans (hb1.mono hbW.size)⟩

set_option maxHeartbeats 1000000 in
set_option maxRecDepth 100000 in
theorem szRecS_any (a : Option Addr) (cap : Nat) (rs : List RecA) (left : Int) (w : World) (hr : ReadsRs w a rs) (hn : rs.length ≤ 9223372036854775807) (hs : ∀ r ∈ rs, r.short 9223372036854775807) (hl : 0 ≤ left ∧ left ≤ 1048576) :
    Calls Tryz.prog 46 #[.slice a rs.length cap, .int .i64 left] w fun e w' => ∃ z : Int, e = .returned (.int .i64 z) ∧ (z < 0 ∨ (0 ≤ z ∧ z ≤ left ∧ rs.length ≤ 1048576 ∧ ∀ r ∈ rs, r.short 1048576)) ∧ Below w.heap.size w w' := by
  have HI : Hid ((Tryz.prog.info? 52).map (·.size) = some 15) := by rw [Hid]; kernel_rfl
  by_cases hle : left - rs.length < 0
  · go_enter Tryz.func46, Tryz.ntmps46
    go_wp2
    go_ret
    exact ⟨-1, rfl, .inl (by omega), Below.refl _ _⟩
  have HS : Hid (∀ k, k < rs.length → (rs.getD k zeroR).short 9223372036854775807) := fun k hk => hs _ (recD_mem rs k hk)
  have hlen : rs.length ≤ 1048576 := by omega
  have HC : Hid (∀ k, k < rs.length → ∃ b off, a = some ⟨b, off, none⟩ ∧ w.rangeAt b (off + k * 15) (rs.getD k zeroR).cells) := fun k hk => by
    obtain ⟨b, off, ha, hc⟩ := hr (by intro e; rw [e] at hk; simp at hk)
    exact ⟨b, off, ha, (hc k hk).1⟩
  have HA : Hid ((∀ k, k < rs.length → (rs.getD k zeroR).short 1048576) → ∀ r ∈ rs, r.short 1048576) := by
    intro h r hr
    obtain ⟨k, hk, rfl⟩ := List.getElem_of_mem hr
    have := h k hk
    simpa [List.getD, hk] using this
  clear hr hs
  go_enter Tryz.func46, Tryz.ntmps46
  go_wp2
  go_loopw [1, 5] (fun v i wr => ∃ (k : Nat) (z : Int), k ≤ rs.length ∧ i = .int .i64 k ∧ v = .int .i64 z ∧ 0 ≤ z ∧ z ≤ left ∧ Hid (∀ j, j < k → (rs.getD j zeroR).short 1048576) ∧ Below w.heap.size w wr) (fun _ i _ => rs.length - (intOf i).toNat)
  case atStart => exact ⟨0, left - rs.length, Nat.zero_le _, rfl, by go_num, by omega, by omega, fun j hj => by omega, Below.refl _ _⟩
  case round =>
    obtain ⟨k, z, hk, rfl, rfl, hz0, hz1, hsh, hbl⟩ := hrel
    by_cases hlt : k < rs.length
    · obtain ⟨b, off, rfl, hcell⟩ := HC.out k hlt
      have HR : Hid (wr.rangeAt b (off + k * 15) (rs.getD k zeroR).cells) := range_below hcell hbl
      have C := szRec_any (rs.getD k zeroR) z wr (HS.out k hlt) (by omega)
      clear hcell HC
      have HN : Hid ((rs.getD k zeroR).short 1048576 → ∀ j, j < k + 1 → (rs.getD j zeroR).short 1048576) := fun h j hj => by
        by_cases e : j = k
        · rw [e]; exact h
        · exact hsh.out j (by omega)
      generalize rs.getD k zeroR = y at *
      go_wp2_with (first | (guard_target = wpList _ _ _ (Oper.mk (some 21) _ _ _ _ _ :: _) _ _; refine wpList_load_mid rfl 52 (.tmp 20) rfl b (off + k * 15) rfl y.cells _ HR.out Tryz.underlying52 rfl HI.out ?_) | fail)
      refine C.mono ?_
      clear C HR
      rintro e w1 ⟨z1, rfl, hz, hb1⟩
      have hB1 : Below w.heap.size w w1 := hbl.trans (hb1.mono hbl.size)
      rcases hz with hneg | ⟨g0, g1, g2⟩
      · go_wp2
        go_ret
        exact ⟨-1, rfl, .inl (by omega), hB1⟩
      · have hzn : ¬ z1 < 0 := by omega
        have HH := HN.out g2
        go_wp2
        go_roundw
        case rel => exact ⟨k + 1, z1, by omega, by go_num, rfl, g0, by omega, HH, hB1⟩
        case measure => simp [intOf]; omega
    · have HE : Hid (∀ r ∈ rs, r.short 1048576) := HA.out (fun j hj => hsh.out j (by omega))
      go_wp2
      go_ret
      exact ⟨z, rfl, .inr ⟨hz0, hz1, hlen, HE.out⟩, hbl⟩

set_option maxHeartbeats 1000000 in
set_option maxRecDepth 100000 in
theorem szLog_any (l : LogA) (left : Int) (w : World) (hr : l.reads w) (hs : l.short 9223372036854775807) (hl : 0 ≤ left ∧ left ≤ 1048576) :
    Calls Tryz.prog 18 #[.agg l.cells.toArray, .int .i64 left] w fun e w' => ∃ z : Int, e = .returned (.int .i64 z) ∧ (z < 0 ∨ (0 ≤ z ∧ z ≤ left ∧ l.short 1048576)) ∧ Below w.heap.size w w' := by
  obtain ⟨rs, s, a, c⟩ := l
  obtain ⟨hl1, hl2⟩ := hs
  simp only [LogA.reads, LogA.cells] at *
  obtain ⟨W, hW, b0, hbW, hsW⟩ := boxes1 w [.slice a rs.length c, .int .i64 s] 46
  have C := szRecS_any a c rs left W (hr.below hbW) hl1 hl2 hl
  clear hsW hr hl1 hl2
  go_enter Tryz.func18, Tryz.ntmps18
  go_wp2_with fail
  rw [hW.out]
  clear hW
  refine C.mono ?_
  clear C
  rintro e w1 ⟨z, rfl, hz, hb1⟩
  have hB : Below w.heap.size w w1 := hbW.trans (hb1.mono hbW.size)
  rcases hz with hneg | ⟨h0, h1, h2, h3⟩
  · go_wp2
    go_ret
    exact ⟨-1, rfl, .inl (by omega), hB⟩
  · have hzn : ¬ z < 0 := by omega
    go_wp2
    go_ret
    exact ⟨z, rfl, .inr ⟨h0, h1, h2, h3⟩, hB⟩
end Go.Proofs.YtoboickdkednkaaGreatDoor

/- What came in, read: a log. -/
namespace Go.Proofs.YtoboickdkednkaaGreatDoor
open Go.ChangeShapes Go.WideShapes Go.ChangeAt Go.RowKit

/-- A log as it came in. -/
structure InLog (w : World) (l : LogA) : Prop where
  recs : ReadsRs w l.a l.recs
  each : ∀ r ∈ l.recs, InRec w r
  len : l.recs.length ≤ maxLen
  num : InI64 l.sure
theorem InLog.short {w : World} {l : LogA} (h : InLog w l) : l.short 9223372036854775807 := ⟨by have := h.len; simp only [maxLen] at this; omega, fun r hr => (h.each r hr).short⟩

section
variable {H : Type} {enc : TypeId × Value → H} {w : World} {base : Nat} {spare : Nat → Bool} {held : Bool}

theorem Tryz.cellsRcs : Tryz.prog.cellsOf 44 = 1 := by kernel_rfl
theorem Tryz.cellsLg : Tryz.prog.cellsOf 46 = 2 := by kernel_rfl

set_option maxRecDepth 100000 in
theorem trod_recs {fuel : Nat} {cs : List Value} {x : DataW H × List MemPlace} (h : DataW.trod enc Tryz.prog w base spare held fuel 44 cs = some x) :
    ∃ (a : Option Addr) (c : Nat) (rs : List RecA), cs = [.slice a rs.length c] ∧ ReadsRs w a rs ∧ (∀ r ∈ rs, InRec w r) ∧ rs.length ≤ maxLen := by
  rcases DataW.trod_slice Tryz.underlying44 h with ⟨rfl, _⟩ | ⟨a, len, cap, elems, rest, n, _, rfl, _, _, hl, hm, hlen, hel, _, _⟩
  · exact ⟨none, 0, [], rfl, ReadsRs.nil _ _, fun r hr => by simp at hr, by simp⟩
  rw [Tryz.cellsRc] at hel
  have each : ∀ i, i < len → ∃ t : RecA, w.cells? base (a.add (i * 15)) 15 = some t.cells ∧ InRec w t := by
    intro i hi
    have hy := hel i hi
    rw [List.getElem?_eq_getElem (by omega : i < elems.length), Option.bind_eq_some_iff] at hy
    obtain ⟨cs', hcs, hy'⟩ := hy
    obtain ⟨t, e, ht⟩ := trod_rec hy'
    exact ⟨t, by rw [hcs, e], ht⟩
  obtain ⟨f, hf⟩ : ∃ f : Nat → RecA, ∀ i, i < len → w.cells? base (a.add (i * 15)) 15 = some (f i).cells ∧ InRec w (f i) := by
    refine ⟨fun i => if h : i < len then (each i h).choose else zeroR, fun i hi => ?_⟩
    simp only [dif_pos hi]
    exact (each i hi).choose_spec
  refine ⟨some a, cap, (List.range len).map f, by simp, ?_, ?_, by simp; omega⟩
  · intro hne
    have hpos := List.length_pos_iff.2 hne
    simp only [List.length_map, List.length_range] at hpos ⊢
    obtain ⟨b, off, spot⟩ := a
    have c0 := (World.cells?_some (hf 0 hpos).1).2.2 0 (by decide)
    have hspot : spot = none := by simpa [Addr.add] using World.cell?_spot c0
    subst hspot
    refine ⟨b, off, rfl, fun k hk => ?_⟩
    have e : ((List.range len).map f).getD k zeroR = f k := by simp [List.getD, hk]
    rw [e]
    have hc := (World.cells?_some (hf k hk).1).2.2
    refine ⟨fun j v hv => ?_, (hf k hk).2.reads⟩
    have hj : j < 15 := by have := (List.getElem?_eq_some_iff.1 hv).1; rwa [cellsR_len] at this
    have d := hc j (by simpa using hj)
    simp only [Addr_add] at d
    rw [d, hv]
  · intro r hr
    obtain ⟨k, hk, rfl⟩ := List.mem_map.1 hr
    exact (hf k (List.mem_range.1 hk)).2

set_option maxRecDepth 100000 in
theorem trod_log {fuel : Nat} {cs : List Value} {x : DataW H × List MemPlace} (h : DataW.trod enc Tryz.prog w base spare held fuel 46 cs = some x) :
    ∃ l : LogA, cs = l.cells ∧ InLog w l := by
  obtain ⟨xs, n, _, _, hlen, hxl, hf⟩ := DataW.trod_struct Tryz.underlying46 h
  rw [Tryz.cellsLg] at hlen
  match cs, hlen with
  | [v0, v1], _ =>
    have f0 := hf 0 _ rfl
    have f1 := hf 1 _ rfl
    obtain ⟨y0, hx0⟩ := some_at xs 0 (by rw [hxl]; decide)
    rw [hx0] at f0
    obtain ⟨y1, hx1⟩ := some_at xs 1 (by rw [hxl]; decide)
    rw [hx1] at f1
    simp only [List.getElem_toArray, List.getElem_cons_zero, List.getElem_cons_succ, Tryz.cellsI, Tryz.cellsRcs, List.drop, List.take] at f0 f1
    obtain ⟨a, c, rs, e0, h0, h1, h2⟩ := trod_recs f0
    obtain ⟨m, e1, w1⟩ := trod_num f1
    simp only [List.cons.injEq, and_true] at e0 e1
    subst e0 e1
    exact ⟨⟨rs, m, a, c⟩, rfl, h0, h1, h2, w1⟩

set_option maxRecDepth 100000 in
/-- A log that came in as an argument. -/
theorem open_log {b0 : Nat} {v : Value} {d : DataW H} {ps : List MemPlace} (hval : Value.okWide Tryz.prog w .any b0 46 v) (h : DataW.Trod enc Tryz.prog w base spare held 46 v d ps) :
    ∃ l : LogA, v = .agg l.cells.toArray ∧ InLog w l := by
  obtain ⟨cs, rfl, hcs⟩ := okWide_struct Tryz.underlying46 hval
  obtain ⟨fuel, hf⟩ := h
  have e : (Value.agg cs).cells.toList = cs.toList := rfl
  rw [e] at hf
  obtain ⟨r, hc, rest⟩ := trod_log hf
  refine ⟨r, ?_, rest⟩
  congr 1
  apply Array.toList_inj.1
  rw [hc]
end
end Go.Proofs.YtoboickdkednkaaGreatDoor

/- What the laws of logs share. -/
namespace Go.Proofs.YtoboickdkednkaaGreatDoor
open Go.RowKit

theorem LogA.reads.below {w w' : World} {l : LogA} (h : l.reads w) (hb : Below w.heap.size w w') : l.reads w' := ReadsRs.below h hb
theorem LogA.own.reads {w : World} {lo hi : Nat} {l : LogA} (h : l.own w lo hi) : l.reads w := OwnRs.reads h
theorem LogA.own.below {w w' : World} {lo hi : Nat} {l : LogA} (h : l.own w lo hi) (hb : Below w.heap.size w w') : l.own w' lo hi := OwnRs.below h hb
theorem LogA.own.within {w w' : World} {lo hi a b : Nat} {l : LogA} (h : l.own w lo hi) (hw : Within a b w w') (hd : hi ≤ a ∨ b ≤ lo) : l.own w' lo hi := OwnRs.within h hw hd
theorem LogA.own.widen {w : World} {lo hi lo' hi' : Nat} {l : LogA} (h : l.own w lo hi) (h1 : lo' ≤ lo) (h2 : hi ≤ hi') (h3 : hi' ≤ w.heap.size) : l.own w lo' hi' := OwnRs.widen h h1 h2 h3
def LogA.blocks (l : LogA) : List Nat := blocksRs l.a l.c l.recs
theorem LogA.own.blocks_lt {w : World} {lo hi : Nat} {l : LogA} (h : l.own w lo hi) : ∀ k ∈ l.blocks, lo ≤ k ∧ k < hi := OwnRs.blocks_lt h
theorem LogA.own.touch {w w' : World} {lo hi : Nat} {l : LogA} {bl : List Nat} (h : l.own w lo hi) (ht : Touch bl w w') (hd : ∀ k ∈ l.blocks, k ∉ bl) : l.own w' lo hi := OwnRs.touch h ht hd
theorem oneLog (l : LogA) : ∀ v ∈ l.cells, v.oneCell' = true := by
  intro v hv
  simp only [LogA.cells, List.mem_cons, List.not_mem_nil, or_false] at hv
  rcases hv with rfl | rfl <;> rfl
theorem InLog.reads {w : World} {l : LogA} (h : InLog w l) : l.reads w := h.recs
theorem log_one (q : LogA) : q.cells.toArray.all (·.oneCell') = true := all_oneCell_toArray (oneLog q)
theorem log_info (q : LogA) : (Tryz.prog.info? 26).map (·.size) = some q.cells.length := by show _ = some 2; kernel_rfl
theorem log_load {w : World} {C : Nat} (q : LogA) (b : Box w C q.cells 26) : (loadVar 26 ⟨C, 0, none⟩).run Tryz.prog w = .ok (.agg q.cells.toArray) w :=
  run_loadVar_mid (P := Tryz.prog) w C 0 26 q.cells _ (Box.range [] q.cells [] (by simpa using b)) Tryz.underlying26 rfl (log_info q)
theorem log_out {w : World} {C : Nat} (q : LogA) (old : List Value) (ho : old.length = 2) (bC : Box w C old 26) :
    ∃ WF, Hid (w.setCells C 0 q.cells = WF) ∧ Within C (C + 1) w WF ∧ WF.heap.size = w.heap.size ∧ Hid (w.there C 0 q.cells.toArray.size) ∧ Hid ((loadVar 26 ⟨C, 0, none⟩).run Tryz.prog WF = .ok (.agg q.cells.toArray) WF) ∧ Box WF C q.cells 26 := by
  obtain ⟨WF, hWF, bF, hwF, hsF⟩ := range_fill [] old q.cells [] (by simpa using bC) (by rw [ho]; rfl)
  have bF' : Box WF C q.cells 26 := by simpa using bF
  exact ⟨WF, hWF, hwF, hsF, bC.there 0 _ (by rw [ho]; show 0 + 2 ≤ 2; decide), log_load q bF', bF'⟩
theorem box2_fill {w : World} {B : Nat} {x0 x1 : Value} {t : TypeId} (b : Box w B [x0, x1] t) (v0 v1 : Value) :
    ∃ W, Hid ((w.setCell ⟨B, 0, none⟩ v0).setCell ⟨B, 1, none⟩ v1 = W) ∧ Box W B [v0, v1] t ∧ Within B (B + 1) w W ∧ W.heap.size = w.heap.size := by
  refine ⟨_, rfl, by simpa using (b.set 0 v0).set 1 v1, (within_set w B 0 v0 (by omega)).trans (within_set _ B 1 v1 (by omega)), by simp⟩
end Go.Proofs.YtoboickdkednkaaGreatDoor

/- The walk of spec.l5Copy. -/
namespace Go.Proofs.YtoboickdkednkaaGreatDoor
open Go.RowKit
attribute [local go_sem ↓] Go.wp_at_zero Go.wp_at_succ

theorem lit_rec (q : RecA) : List.foldl (fun cs x => cs.setIfInBounds x.snd x.fst) (#[.int .i64 0, .int .i64 0, .int .i64 0, .int .i64 0, .int .i64 0, .bool false, .int .i64 0, .slice none 0 0, .slice none 0 0, .bool false, .int .i64 0, .slice none 0 0, .slice none 0 0, .int .i64 0, .slice none 0 0] : Array Value) q.cells.zipIdx = q.cells.toArray := by simp [RecA.cells, List.zipIdx]

set_option maxHeartbeats 4000000 in
set_option maxRecDepth 100000 in
theorem l5Copy_any (l : LogA) (w : World) (hr : l.reads w) (hl : l.short 1048576) (hcp : ∀ r ∈ l.recs, r.aL = none → r.cL = 0) :
    Calls Tryz.prog 43 #[.agg l.cells.toArray] w fun e w' => ∃ t : LogA, e = .returned (.agg t.cells.toArray) ∧ Hid (t.v = l.v) ∧ t.own w' w.heap.size w'.heap.size ∧ Below w.heap.size w w' := by
  obtain ⟨rs, s, a, c⟩ := l
  have hl2 := (LogA.short_wide hl).each
  have hl0 := hl.len
  simp only [LogA.reads, LogA.cells, LogA.own] at *
  obtain ⟨W, hW, b0, b1, b2, hbW, hsW⟩ := boxes3 w [.slice a rs.length c, .int .i64 s] [.slice none 0 0, .int .i64 0] [.slice none 0 0, .int .i64 s] 26 26 26
  have hs0 : w.heap.size + 1 + 1 < W.heap.size := by omega
  clear hsW
  have x0 := b0.cell 0 _ rfl
  have x1 := b0.cell 1 _ rfl
  have HC : Hid (∀ k, k < rs.length → ∃ b off, a = some ⟨b, off, none⟩ ∧ w.rangeAt b (off + k * 15) (rs.getD k zeroR).cells ∧ (rs.getD k zeroR).reads w ∧ (rs.getD k zeroR).short 1099511627776 ∧ ((rs.getD k zeroR).aL = none → (rs.getD k zeroR).cL = 0)) := fun k hk => by
    obtain ⟨b, off, ha, hc⟩ := hr (by intro e; rw [e] at hk; simp at hk)
    exact ⟨b, off, ha, (hc k hk).1, (hc k hk).2, hl2 _ (recD_mem rs k hk), hcp _ (recD_mem rs k hk)⟩
  have HI : Hid ((Tryz.prog.info? 39).map (·.size) = some 15) := by rw [Hid]; kernel_rfl
  clear hr hl hl2 hcp
  go_enter Tryz.func43, Tryz.ntmps43
  go_wp2_with fail
  rw [hW.out]
  clear hW x0 x1
  go_loopw [4] (fun i wr => ∃ (k : Nat) (ts : List RecA) (a' : Option Addr) (c' : Nat), k ≤ rs.length ∧ i = .int .i64 k ∧ Hid (Came rs ts k) ∧ Box wr (w.heap.size + 1 + 1) [.slice a' ts.length c', .int .i64 s] 26 ∧ Box wr w.heap.size [.slice a rs.length c, .int .i64 s] 26 ∧ Box wr (w.heap.size + 1) [.slice none 0 0, .int .i64 0] 26 ∧ OwnRs wr W.heap.size wr.heap.size a' c' ts ∧ Below w.heap.size w wr ∧ W.heap.size ≤ wr.heap.size)
    (fun i _ => rs.length - (intOf i).toNat)
  case atStart => exact ⟨0, [], none, 0, Nat.zero_le _, rfl, came_none rs, b2, b0, b1, ownRs_nil _ _ _ (Nat.le_refl _), hbW, Nat.le_refl _⟩
  case round =>
    obtain ⟨k, ts, a', c', hk, rfl, hc, k2, k0, k1, hown, hnx, hsz⟩ := hrel
    clear b0 b1 b2 hbW
    have x0 := k0.cell 0 _ rfl
    by_cases hlt : k < rs.length
    · obtain ⟨b, off, rfl, hcell, hrd, hsh, hnc⟩ := HC.out k hlt
      have hbB := rangeR_lt hcell
      have hnw := hnx.size
      have HR : Hid (∀ u, Below w.heap.size w u → u.rangeAt b (off + k * 15) (rs.getD k zeroR).cells) := fun u hu => rangeAt_below hcell hu hbB
      have HS : Hid (∀ q : RecA, q.v = (rs.getD k zeroR).v → Came rs (ts ++ [q]) (k + 1)) := fun q hq => hc.out.snoc hlt hq
      have HL : Hid (ts.length = k) := hc.out.1
      clear hcell HC
      generalize rs.getD k zeroR = z at *
      have e0 := k2.cell 0 _ rfl
      have HSS : Hid (∀ u, Below w.heap.size w u → Box u w.heap.size [.slice (some ⟨b, off, none⟩) rs.length c, .int .i64 s] 26 → u.rangeAt b (off + k * 15) z.cells ∧ u.cell? ⟨w.heap.size, 0, none⟩ = some (.slice (some ⟨b, off, none⟩) rs.length c)) := fun u h1 h2 => ⟨HR.out u h1, h2.cell 0 _ rfl⟩
      go_wp2_with fail
      refine wp_region_held_drew (S := fun w' => w'.rangeAt b (off + k * 15) z.cells ∧ w'.cell? ⟨w.heap.size, 0, none⟩ = some (.slice (some ⟨b, off, none⟩) rs.length c)) (by kernel_rfl) ?_ (fun hHeld => ?_)
      · exact HSS.out _ hnx.drew (k0.drewN 1)
      refine wpAnyH_take (i := 0) (v := .pointer (some ⟨w.heap.size + 1 + 1, 0, none⟩)) rfl (by kernel_rfl) (by kernel_rfl) (by kernel_rfl) (fun _ _ _ h => h) (Or.inl ⟨by rfl, ?_⟩) hHeld ?_
      · intro w' hSw
        go_simp <;> rfl
      try simp only [Act.put, List.getElem_toArray, List.getElem_cons_zero, List.setIfInBounds_toArray, List.set_cons_zero, List.set_cons_succ]
      refine wpAnyH_take (i := 2) (v := .pointer (some ⟨w.heap.size, 0, none⟩)) rfl (by kernel_rfl) (by kernel_rfl) (by kernel_rfl) (fun _ _ _ h => h) (Or.inl ⟨by rfl, ?_⟩) hHeld ?_
      · intro w' hSw
        go_simp <;> rfl
      try simp only [Act.put, List.getElem_toArray, List.getElem_cons_zero, List.getElem_cons_succ, List.setIfInBounds_toArray, List.set_cons_zero, List.set_cons_succ]
      refine wpAnyH_take (i := 3) (v := .slice (some ⟨b, off, none⟩) rs.length c) rfl (by kernel_rfl) (by kernel_rfl) (by kernel_rfl) (fun _ _ _ h => h) (Or.inl ⟨by rfl, ?_⟩) hHeld ?_
      · intro w' hSw
        have hx := hSw.2
        go_simp <;> rfl
      try simp only [Act.put, List.getElem_toArray, List.getElem_cons_zero, List.getElem_cons_succ, List.setIfInBounds_toArray, List.set_cons_zero, List.set_cons_succ]
      refine wpAnyH_take (i := 4) (v := .int .i64 k) rfl (by kernel_rfl) (by kernel_rfl) (by kernel_rfl) (fun _ _ _ h => h) (Or.inl ⟨by rfl, ?_⟩) hHeld ?_
      · intro w' hSw
        go_simp <;> rfl
      try simp only [Act.put, List.getElem_toArray, List.getElem_cons_zero, List.getElem_cons_succ, List.setIfInBounds_toArray, List.set_cons_zero, List.set_cons_succ]
      refine wpAnyH_take (i := 5) (v := .pointer (some ⟨b, off + k * 15, none⟩)) rfl (by kernel_rfl) (by kernel_rfl) (by kernel_rfl) (fun _ _ _ h => h) (Or.inl ⟨by rfl, ?_⟩) hHeld ?_
      · intro w' hSw
        go_simp <;> rfl
      try simp only [Act.put, List.getElem_toArray, List.getElem_cons_zero, List.getElem_cons_succ, List.setIfInBounds_toArray, List.set_cons_zero, List.set_cons_succ]
      refine wpAnyH_take (i := 6) rfl (by kernel_rfl) (by kernel_rfl) (by kernel_rfl) (fun _ _ _ h => h) (yieldsIf_load_mid (by rfl) _ _ rfl _ _ rfl z.cells _ (fun _ h => h.1) Tryz.underlying39 rfl HI.out) hHeld ?_
      try simp only [Act.put, List.getElem_toArray, List.getElem_cons_zero, List.getElem_cons_succ, List.setIfInBounds_toArray, List.set_cons_zero, List.set_cons_succ]
      have hnd : Below wr.heap.size wr wr.drew := (Below.refl _ _).drew
      have C := l5CopyRec_own z wr.drew (hrd.below hnx.drew) hsh hnc
      refine wpAnyH_ready (rs := [1, 7]) (by kernel_rfl) (by simp) ?_
      refine AllReadyH.cons rfl (fun K hK => ?_) (AllReadyH.cons rfl (fun K hK => ?_) AllReadyH.nil)
      · go_simp
        refine hK.out _ _ (hHeld) (fun hHeld => ?_)
        clear hK K
        try simp only [Act.put, List.getElem_toArray, List.getElem_cons_zero, List.getElem_cons_succ, List.setIfInBounds_toArray, List.set_cons_zero, List.set_cons_succ]
        refine wpAnyH_ready (rs := [7]) (by kernel_rfl) (by simp) ?_
        refine AllReadyH.cons rfl (fun K hK => ?_) AllReadyH.nil
        go_simp
        refine C.mono ?_
        clear C
        rintro e u2 ⟨q, rfl, hq, hqo, hb2⟩
        have hb2' : Below wr.heap.size wr u2 := hnd.trans hb2
        have hn2 : Below w.heap.size w u2 := hnx.trans (hb2'.mono hnw)
        have k22 := k2.below hb2' k2.lt
        have k02 := k0.below hb2' k0.lt
        have k12 := k1.below hb2' k1.lt
        have o2 := hown.below hb2'
        have hqo2 : q.own u2 wr.heap.size u2.heap.size := hqo
        have hs2 := hb2'.size
        refine hK.out _ _ (HSS.out _ hn2 k02) (fun hHeld => ?_)
        clear hK K
        try simp only [Act.put, List.getElem_toArray, List.getElem_cons_zero, List.getElem_cons_succ, List.setIfInBounds_toArray, List.set_cons_zero, List.set_cons_succ]
        refine wpAnyH_ready (rs := [8]) (by kernel_rfl) (by simp) ?_
        refine AllReadyH.cons rfl (fun K hK => ?_) AllReadyH.nil
        go_simp
        simp only [cellsR_len, lit_rec, not_true_eq_false, Nat.lt_irrefl, or_self, if_false]
        go_simp
        obtain ⟨W3, hW3, b3, hb3, hs3⟩ := boxes1 u2 q.cells 39
        rw [hW3.out]
        have hn3 : Below w.heap.size w W3 := hn2.trans (hb3.mono hn2.size)
        have k23 := k22.below hb3 k22.lt
        have k03 := k02.below hb3 k02.lt
        have k13 := k12.below hb3 k12.lt
        have o3 := o2.below hb3
        have hqo3 := hqo2.below hb3
        have r3 : W3.rangeAt u2.heap.size 0 q.cells := Box.range [] q.cells [] (by simpa using b3)
        have hs3' := b3.lt
        clear hs3 hb3 hW3 b3 k02 k12 o2 hqo2
        refine hK.out _ _ (HSS.out _ hn3 k03) (fun hHeld => ?_)
        clear hK K
        try simp only [Act.put, List.getElem_toArray, List.getElem_cons_zero, List.getElem_cons_succ, List.setIfInBounds_toArray, List.set_cons_zero, List.set_cons_succ]
        have hll : ts.length + 1 ≤ 68719476736 := by have := HL.out; omega
        refine wpAnyH_ready (rs := [9]) (by kernel_rfl) (by simp) ?_
        refine AllReadyH.cons rfl (fun K hK => ?_) AllReadyH.nil
        refine step_append_rec rfl (.tmp 16) (.tmp 23) rfl W.heap.size wr.heap.size a' c' ts rfl o3 u2.heap.size 0 1 q rfl r3 wr.heap.size u2.heap.size hqo3 (Nat.le_refl _) (by omega) hll hsz ?_
        intro a9 c9 w9 o9 g9
        have HCM := HS.out q hq.out
        obtain ⟨ys, hys⟩ : ∃ ys, Hid (ts ++ [q] = ys) := ⟨_, rfl⟩
        rw [hys.out] at o9 HCM ⊢
        have hw9 : Within W.heap.size wr.heap.size W3 w9 := Within.of_grown g9 (fun j hj => ⟨(o3.row.lt j hj).1, o3.blk j hj⟩)
        have hs9 := hw9.size
        have hn9 : Below w.heap.size w w9 := hn3.trans (hw9.below (by omega) (by omega))
        have k29 := k23.within hw9 (by omega)
        have k09 := k03.within hw9 (by omega)
        have k19 := k13.within hw9 (by omega)
        refine hK.out _ _ (HSS.out _ hn9 k09) (fun hHeld => ?_)
        clear hK K hw9 g9 o3 r3 hqo3 k23 k03 k13
        try simp only [Act.put, List.getElem_toArray, List.getElem_cons_zero, List.getElem_cons_succ, List.setIfInBounds_toArray, List.set_cons_zero, List.set_cons_succ]
        refine wpAnyH_take (i := 10) (v := .pointer (some ⟨w.heap.size + 1 + 1, 0, none⟩)) rfl (by kernel_rfl) (by kernel_rfl) (by kernel_rfl) (fun _ _ _ h => h) (Or.inl ⟨by rfl, ?_⟩) hHeld ?_
        · intro w' hSw
          go_simp <;> rfl
        try simp only [Act.put, List.getElem_toArray, List.getElem_cons_zero, List.getElem_cons_succ, List.setIfInBounds_toArray, List.set_cons_zero, List.set_cons_succ]
        have m0 := k29.cell 0 _ rfl
        have mf0 := k29.frozen 0
        obtain ⟨WF, hWF, kF, hwF, hsF⟩ := box_set k29 0 (.slice a9 ys.length c9)
        simp only [List.set] at kF
        have hsFa := Nat.le_of_eq hsF
        have hsFb := Nat.le_of_eq hsF.symm
        clear hsF
        have k0F := k09.within hwF (by omega)
        have k1F := k19.within hwF (by omega)
        have oF := (o9.within hwF (.inr (by omega))).widen (Nat.le_refl _) hsFb (Nat.le_refl _)
        have hnF : Below w.heap.size w WF := hn9.trans (hwF.below (by omega) (by omega))
        clear hwF k29 k09 k19 o9
        refine wpAnyH_ready (rs := [11]) (by kernel_rfl) (by simp) ?_
        refine AllReadyH.cons rfl (fun K hK => ?_) AllReadyH.nil
        go_simp
        rw [hWF.out]
        refine hK.out _ _ (HSS.out _ hnF k0F) (fun hHeld => ?_)
        clear hK K
        try simp only [Act.put, List.getElem_toArray, List.getElem_cons_zero, List.getElem_cons_succ, List.setIfInBounds_toArray, List.set_cons_zero, List.set_cons_succ]
        refine wpAnyH_done (by kernel_rfl) ?_ _
        clear m0 mf0 hWF
        go_wp2_with fail
        go_roundw
        case rel => exact ⟨k + 1, ys, a9, c9, by omega, by go_num, HCM, kF, k0F, k1F, oF, hnF, by omega⟩
        case measure => simp [intOf]; omega
      · go_simp
        refine C.mono ?_
        clear C
        rintro e u2 ⟨q, rfl, hq, hqo, hb2⟩
        have hb2' : Below wr.heap.size wr u2 := hnd.trans hb2
        have hn2 : Below w.heap.size w u2 := hnx.trans (hb2'.mono hnw)
        have k22 := k2.below hb2' k2.lt
        have k02 := k0.below hb2' k0.lt
        have k12 := k1.below hb2' k1.lt
        have o2 := hown.below hb2'
        have hqo2 : q.own u2 wr.heap.size u2.heap.size := hqo
        have hs2 := hb2'.size
        refine hK.out _ _ (HSS.out _ hn2 k02) (fun hHeld => ?_)
        clear hK K
        try simp only [Act.put, List.getElem_toArray, List.getElem_cons_zero, List.getElem_cons_succ, List.setIfInBounds_toArray, List.set_cons_zero, List.set_cons_succ]
        refine wpAnyH_ready (rs := [1, 8]) (by kernel_rfl) (by simp) ?_
        refine AllReadyH.cons rfl (fun K hK => ?_) (AllReadyH.cons rfl (fun K hK => ?_) AllReadyH.nil)
        · have d0 := k22.cell 0 _ rfl
          go_simp
          refine hK.out _ _ (hHeld) (fun hHeld => ?_)
          clear hK K
          try simp only [Act.put, List.getElem_toArray, List.getElem_cons_zero, List.getElem_cons_succ, List.setIfInBounds_toArray, List.set_cons_zero, List.set_cons_succ]
          refine wpAnyH_ready (rs := [8]) (by kernel_rfl) (by simp) ?_
          refine AllReadyH.cons rfl (fun K hK => ?_) AllReadyH.nil
          go_simp
          simp only [cellsR_len, lit_rec, not_true_eq_false, Nat.lt_irrefl, or_self, if_false]
          go_simp
          obtain ⟨W3, hW3, b3, hb3, hs3⟩ := boxes1 u2 q.cells 39
          rw [hW3.out]
          have hn3 : Below w.heap.size w W3 := hn2.trans (hb3.mono hn2.size)
          have k23 := k22.below hb3 k22.lt
          have k03 := k02.below hb3 k02.lt
          have k13 := k12.below hb3 k12.lt
          have o3 := o2.below hb3
          have hqo3 := hqo2.below hb3
          have r3 : W3.rangeAt u2.heap.size 0 q.cells := Box.range [] q.cells [] (by simpa using b3)
          have hs3' := b3.lt
          clear hs3 hb3 hW3 b3 k02 k12 o2 hqo2
          refine hK.out _ _ (HSS.out _ hn3 k03) (fun hHeld => ?_)
          clear hK K
          try simp only [Act.put, List.getElem_toArray, List.getElem_cons_zero, List.getElem_cons_succ, List.setIfInBounds_toArray, List.set_cons_zero, List.set_cons_succ]
          have hll : ts.length + 1 ≤ 68719476736 := by have := HL.out; omega
          refine wpAnyH_ready (rs := [9]) (by kernel_rfl) (by simp) ?_
          refine AllReadyH.cons rfl (fun K hK => ?_) AllReadyH.nil
          refine step_append_rec rfl (.tmp 16) (.tmp 23) rfl W.heap.size wr.heap.size a' c' ts rfl o3 u2.heap.size 0 1 q rfl r3 wr.heap.size u2.heap.size hqo3 (Nat.le_refl _) (by omega) hll hsz ?_
          intro a9 c9 w9 o9 g9
          have HCM := HS.out q hq.out
          obtain ⟨ys, hys⟩ : ∃ ys, Hid (ts ++ [q] = ys) := ⟨_, rfl⟩
          rw [hys.out] at o9 HCM ⊢
          have hw9 : Within W.heap.size wr.heap.size W3 w9 := Within.of_grown g9 (fun j hj => ⟨(o3.row.lt j hj).1, o3.blk j hj⟩)
          have hs9 := hw9.size
          have hn9 : Below w.heap.size w w9 := hn3.trans (hw9.below (by omega) (by omega))
          have k29 := k23.within hw9 (by omega)
          have k09 := k03.within hw9 (by omega)
          have k19 := k13.within hw9 (by omega)
          refine hK.out _ _ (HSS.out _ hn9 k09) (fun hHeld => ?_)
          clear hK K hw9 g9 o3 r3 hqo3 k23 k03 k13
          try simp only [Act.put, List.getElem_toArray, List.getElem_cons_zero, List.getElem_cons_succ, List.setIfInBounds_toArray, List.set_cons_zero, List.set_cons_succ]
          refine wpAnyH_take (i := 10) (v := .pointer (some ⟨w.heap.size + 1 + 1, 0, none⟩)) rfl (by kernel_rfl) (by kernel_rfl) (by kernel_rfl) (fun _ _ _ h => h) (Or.inl ⟨by rfl, ?_⟩) hHeld ?_
          · intro w' hSw
            go_simp <;> rfl
          try simp only [Act.put, List.getElem_toArray, List.getElem_cons_zero, List.getElem_cons_succ, List.setIfInBounds_toArray, List.set_cons_zero, List.set_cons_succ]
          have m0 := k29.cell 0 _ rfl
          have mf0 := k29.frozen 0
          obtain ⟨WF, hWF, kF, hwF, hsF⟩ := box_set k29 0 (.slice a9 ys.length c9)
          simp only [List.set] at kF
          have hsFa := Nat.le_of_eq hsF
          have hsFb := Nat.le_of_eq hsF.symm
          clear hsF
          have k0F := k09.within hwF (by omega)
          have k1F := k19.within hwF (by omega)
          have oF := (o9.within hwF (.inr (by omega))).widen (Nat.le_refl _) hsFb (Nat.le_refl _)
          have hnF : Below w.heap.size w WF := hn9.trans (hwF.below (by omega) (by omega))
          clear hwF k29 k09 k19 o9
          refine wpAnyH_ready (rs := [11]) (by kernel_rfl) (by simp) ?_
          refine AllReadyH.cons rfl (fun K hK => ?_) AllReadyH.nil
          go_simp
          rw [hWF.out]
          refine hK.out _ _ (HSS.out _ hnF k0F) (fun hHeld => ?_)
          clear hK K
          try simp only [Act.put, List.getElem_toArray, List.getElem_cons_zero, List.getElem_cons_succ, List.setIfInBounds_toArray, List.set_cons_zero, List.set_cons_succ]
          refine wpAnyH_done (by kernel_rfl) ?_ _
          clear m0 mf0 hWF
          go_wp2_with fail
          go_roundw
          case rel => exact ⟨k + 1, ys, a9, c9, by omega, by go_num, HCM, kF, k0F, k1F, oF, hnF, by omega⟩
          case measure => simp [intOf]; omega
        · go_simp
          simp only [cellsR_len, lit_rec, not_true_eq_false, Nat.lt_irrefl, or_self, if_false]
          go_simp
          obtain ⟨W3, hW3, b3, hb3, hs3⟩ := boxes1 u2 q.cells 39
          rw [hW3.out]
          have hn3 : Below w.heap.size w W3 := hn2.trans (hb3.mono hn2.size)
          have k23 := k22.below hb3 k22.lt
          have k03 := k02.below hb3 k02.lt
          have k13 := k12.below hb3 k12.lt
          have o3 := o2.below hb3
          have hqo3 := hqo2.below hb3
          have r3 : W3.rangeAt u2.heap.size 0 q.cells := Box.range [] q.cells [] (by simpa using b3)
          have hs3' := b3.lt
          clear hs3 hb3 hW3 b3 k02 k12 o2 hqo2
          refine hK.out _ _ (HSS.out _ hn3 k03) (fun hHeld => ?_)
          clear hK K
          try simp only [Act.put, List.getElem_toArray, List.getElem_cons_zero, List.getElem_cons_succ, List.setIfInBounds_toArray, List.set_cons_zero, List.set_cons_succ]
          have d0 := k23.cell 0 _ rfl
          refine wpAnyH_ready (rs := [1]) (by kernel_rfl) (by simp) ?_
          refine AllReadyH.cons rfl (fun K hK => ?_) AllReadyH.nil
          go_simp
          refine hK.out _ _ (hHeld) (fun hHeld => ?_)
          clear hK K
          try simp only [Act.put, List.getElem_toArray, List.getElem_cons_zero, List.getElem_cons_succ, List.setIfInBounds_toArray, List.set_cons_zero, List.set_cons_succ]
          have hll : ts.length + 1 ≤ 68719476736 := by have := HL.out; omega
          refine wpAnyH_ready (rs := [9]) (by kernel_rfl) (by simp) ?_
          refine AllReadyH.cons rfl (fun K hK => ?_) AllReadyH.nil
          refine step_append_rec rfl (.tmp 16) (.tmp 23) rfl W.heap.size wr.heap.size a' c' ts rfl o3 u2.heap.size 0 1 q rfl r3 wr.heap.size u2.heap.size hqo3 (Nat.le_refl _) (by omega) hll hsz ?_
          intro a9 c9 w9 o9 g9
          have HCM := HS.out q hq.out
          obtain ⟨ys, hys⟩ : ∃ ys, Hid (ts ++ [q] = ys) := ⟨_, rfl⟩
          rw [hys.out] at o9 HCM ⊢
          have hw9 : Within W.heap.size wr.heap.size W3 w9 := Within.of_grown g9 (fun j hj => ⟨(o3.row.lt j hj).1, o3.blk j hj⟩)
          have hs9 := hw9.size
          have hn9 : Below w.heap.size w w9 := hn3.trans (hw9.below (by omega) (by omega))
          have k29 := k23.within hw9 (by omega)
          have k09 := k03.within hw9 (by omega)
          have k19 := k13.within hw9 (by omega)
          refine hK.out _ _ (HSS.out _ hn9 k09) (fun hHeld => ?_)
          clear hK K hw9 g9 o3 r3 hqo3 k23 k03 k13
          try simp only [Act.put, List.getElem_toArray, List.getElem_cons_zero, List.getElem_cons_succ, List.setIfInBounds_toArray, List.set_cons_zero, List.set_cons_succ]
          refine wpAnyH_take (i := 10) (v := .pointer (some ⟨w.heap.size + 1 + 1, 0, none⟩)) rfl (by kernel_rfl) (by kernel_rfl) (by kernel_rfl) (fun _ _ _ h => h) (Or.inl ⟨by rfl, ?_⟩) hHeld ?_
          · intro w' hSw
            go_simp <;> rfl
          try simp only [Act.put, List.getElem_toArray, List.getElem_cons_zero, List.getElem_cons_succ, List.setIfInBounds_toArray, List.set_cons_zero, List.set_cons_succ]
          have m0 := k29.cell 0 _ rfl
          have mf0 := k29.frozen 0
          obtain ⟨WF, hWF, kF, hwF, hsF⟩ := box_set k29 0 (.slice a9 ys.length c9)
          simp only [List.set] at kF
          have hsFa := Nat.le_of_eq hsF
          have hsFb := Nat.le_of_eq hsF.symm
          clear hsF
          have k0F := k09.within hwF (by omega)
          have k1F := k19.within hwF (by omega)
          have oF := (o9.within hwF (.inr (by omega))).widen (Nat.le_refl _) hsFb (Nat.le_refl _)
          have hnF : Below w.heap.size w WF := hn9.trans (hwF.below (by omega) (by omega))
          clear hwF k29 k09 k19 o9
          refine wpAnyH_ready (rs := [11]) (by kernel_rfl) (by simp) ?_
          refine AllReadyH.cons rfl (fun K hK => ?_) AllReadyH.nil
          go_simp
          rw [hWF.out]
          refine hK.out _ _ (HSS.out _ hnF k0F) (fun hHeld => ?_)
          clear hK K
          try simp only [Act.put, List.getElem_toArray, List.getElem_cons_zero, List.getElem_cons_succ, List.setIfInBounds_toArray, List.set_cons_zero, List.set_cons_succ]
          refine wpAnyH_done (by kernel_rfl) ?_ _
          clear m0 mf0 hWF
          go_wp2_with fail
          go_roundw
          case rel => exact ⟨k + 1, ys, a9, c9, by omega, by go_num, HCM, kF, k0F, k1F, oF, hnF, by omega⟩
          case measure => simp [intOf]; omega
    · have HE : Hid (ts.map RecA.v = rs.map RecA.v) := by
        have e : k = rs.length := by omega
        rw [e] at hc
        exact hc.out.all
      have e0 := k2.cell 0 _ rfl
      have e1 := k2.cell 1 _ rfl
      have m0 := k1.cell 0 _ rfl
      have m1 := k1.cell 1 _ rfl
      have mf0 := k1.frozen 0
      have mf1 := k1.frozen 1
      obtain ⟨WF, hWF, bF, hwF, hsF⟩ := box2_fill k1 (.slice a' ts.length c') (.int .i64 s)
      have q0 := bF.cell 0 _ rfl
      have q1 := bF.cell 1 _ rfl
      have hoF := (hown.within hwF (.inr (by omega))).widen (show w.heap.size ≤ W.heap.size by omega) (show wr.heap.size ≤ WF.heap.size by omega) (Nat.le_refl _)
      have hbF : Below w.heap.size w WF := hnx.trans (hwF.below (by omega) (by have := hnx.size; omega))
      clear hwF hsF bF
      go_wp2
      rw [hWF.out]
      exact bodyPost_ret (v := .agg #[.slice a' ts.length c', .int .i64 s]) (by simp [results, Tryz.results43, go_sem, q0, q1]) rfl ⟨⟨ts, s, a', c'⟩, rfl, by simp only [Hid, LogA.v]; rw [HE.out], hoF, hbF⟩
end Go.Proofs.YtoboickdkednkaaGreatDoor

/- Logs: when they are right, what is made of them. -/
namespace Go.Proofs.YtoboickdkednkaaGreatDoor
open Go.RowKit

theorem getD_v (rs : List RecA) (k : Nat) : (rs.map RecA.v).getD k noR = (rs.getD k zeroR).v := by
  simp only [List.getD, List.getElem?_map]
  cases rs[k]? <;> rfl
def okAt (rs : List RecV) (k : Nat) : Bool := ((rs.getD k noR).lsn == (k + 1 : Int)) && okR (rs.getD k noR)
/-- Is the log right? -/
def okLog (l : LogV) : Bool := decide (l.recs.length ≤ 4000) && (inB l.sure 0 l.recs.length && (List.range l.recs.length).all (okAt l.recs))
theorem okLog_len {l : LogV} (h : ¬ l.recs.length ≤ 4000) : okLog l = false := by simp [okLog, h]
theorem okLog_sure {l : LogV} (h : inB l.sure 0 l.recs.length = false) : okLog l = false := by simp [okLog, h]
theorem okLog_no {l : LogV} (k : Nat) (hk : k < l.recs.length) (h : okAt l.recs k = false) : okLog l = false := by
  have : (List.range l.recs.length).all (okAt l.recs) = false := by
    rw [List.all_eq_false]
    exact ⟨k, List.mem_range.2 hk, by rw [h]; decide⟩
  simp [okLog, this]
theorem okLog_all {l : LogV} (h0 : l.recs.length ≤ 4000) (h1 : inB l.sure 0 l.recs.length = true) (h : ∀ k, k < l.recs.length → okAt l.recs k = true) : okLog l = true := by
  have : (List.range l.recs.length).all (okAt l.recs) = true := by
    rw [List.all_eq_true]
    exact fun k hk => h k (List.mem_range.1 hk)
  simp [okLog, this, h0, h1]
theorem okLog_yes {l : LogV} (h : okLog l = true) : l.recs.length ≤ 4000 ∧ 0 ≤ l.sure ∧ l.sure ≤ l.recs.length ∧ ∀ k, k < l.recs.length → (l.recs.getD k noR).lsn = (k + 1 : Int) ∧ okR (l.recs.getD k noR) = true := by
  simp only [okLog, Bool.and_eq_true, decide_eq_true_eq, List.all_eq_true, List.mem_range, okAt, beq_iff_eq, inB] at h
  exact ⟨h.1, h.2.1.1, h.2.1.2, h.2.2⟩
theorem LogA.v_len (l : LogA) : l.v.recs.length = l.recs.length := by simp [LogA.v]
theorem LogA.v_at (l : LogA) (k : Nat) : l.v.recs.getD k noR = (l.recs.getD k zeroR).v := getD_v l.recs k
theorem okAt_v (l : LogA) (k : Nat) : okAt l.v.recs k = (((l.recs.getD k zeroR).lsn == (k + 1 : Int)) && okR (l.recs.getD k zeroR).v) := by
  unfold okAt
  rw [l.v_at]
  rfl

def lsnR (r : RecV) (n : Int) : RecV := { r with lsn := n }
def appendOf (l : LogV) (r : RecV) : LogV × Int :=
  if okLog l = true ∧ l.recs.length ≠ 4000 ∧ okR (lsnR r (l.recs.length + 1)) = true then (⟨l.recs ++ [lsnR r (l.recs.length + 1)], l.sure⟩, l.recs.length + 1) else (l, 0)
end Go.Proofs.YtoboickdkednkaaGreatDoor

/- The walk of spec.LogOk. -/
namespace Go.Proofs.YtoboickdkednkaaGreatDoor
open Go.RowKit

/-- A whole value loaded where a guard stands ahead of it that lets it by. -/
theorem load_if {ops : Array Oper} {rest : List Oper} {op : Oper} {a : Act} {w : World} {Q : Exit → Act → World → Prop} {P : Program} (hw : Region.wanted op (yielded ops a.tmps) = true) (ty : TypeId) (x : Operand) (ho : op.op = .load ty x)
    (b o : Nat) (hx : a.eval x = .pointer (some ⟨b, o, none⟩)) (cs : List Value) (d : TypeDesc) (hc : w.rangeAt b o cs)
    (hu : P.underlying ty = some d) (hd : d.isRow = true) (hi : (P.info? ty).map (·.size) = some cs.length)
    (h : wpList P ops Q rest (a.put op.dst (.agg cs.toArray)) w) : wpList P ops Q (op :: rest) a w :=
  wpList_step fun _ hK => by
    simp only [hw, if_true]
    exact wp_load_mid ty x ho b o hx cs d hc hu hd hi (hK _ _ h)

set_option maxHeartbeats 4000000 in
set_option maxRecDepth 100000 in
theorem specLogOk_any (l : LogA) (w : World) (hr : l.reads w) (hl : l.short 1099511627776) :
    Calls Tryz.prog 10 #[.agg l.cells.toArray] w fun e w' => e = .returned (.bool (okLog l.v)) ∧ Below w.heap.size w w' := by
  have HLEN : Hid (¬ l.recs.length ≤ 4000 → okLog l.v = false) := fun h => okLog_len (by rw [l.v_len]; exact h)
  have HSURE : Hid (inB l.sure 0 l.recs.length = false → okLog l.v = false) := fun h => okLog_sure (by rw [l.v_len]; exact h)
  have HNO : Hid (∀ k, k < l.recs.length → (((l.recs.getD k zeroR).lsn == (k + 1 : Int)) && okR (l.recs.getD k zeroR).v) = false → okLog l.v = false) := fun k hk h => okLog_no k (by rw [l.v_len]; exact hk) (by rw [okAt_v]; exact h)
  have HALL : Hid (l.recs.length ≤ 4000 → inB l.sure 0 l.recs.length = true → (∀ k, k < l.recs.length → (((l.recs.getD k zeroR).lsn == (k + 1 : Int)) && okR (l.recs.getD k zeroR).v) = true) → okLog l.v = true) := fun h0 h1 h => okLog_all (by rw [l.v_len]; exact h0) (by rw [l.v_len]; exact h1) (fun k hk => by rw [okAt_v]; exact h k (by rw [l.v_len] at hk; exact hk))
  generalize okLog l.v = R at *
  have HS : Hid (∀ k, k < l.recs.length → (l.recs.getD k zeroR).short 1099511627776) := fun k hk => hl.at k hk
  have hlen := hl.len
  obtain ⟨rs, s, a, c⟩ := l
  simp only [LogA.reads, LogA.cells] at *
  obtain ⟨W, hW, b0, hbW, hsW⟩ := boxes1 w [.slice a rs.length c, .int .i64 s] 26
  have c0 := b0.cell 0 _ rfl
  have c1 := b0.cell 1 _ rfl
  clear hl hsW
  have HC : Hid (∀ k, k < rs.length → ∃ b off, a = some ⟨b, off, none⟩ ∧ W.rangeAt b (off + k * 15) (rs.getD k zeroR).cells ∧ (rs.getD k zeroR).reads W) := fun k hk => by
    obtain ⟨b, off, ha, hc⟩ := (ReadsRs.below hr hbW) (by intro e; rw [e] at hk; simp at hk)
    exact ⟨b, off, ha, hc k hk⟩
  have HI : Hid ((Tryz.prog.info? 39).map (·.size) = some 15) := by rw [Hid]; kernel_rfl
  clear hr
  by_cases h4 : rs.length ≤ 4000
  case neg =>
    have HR : Hid (R = false) := HLEN.out h4
    clear HLEN HSURE HNO HALL
    go_enter Tryz.func10, Tryz.ntmps10
    go_wp2_with fail
    rw [hW.out]
    go_ret
    exact ⟨ret_bool HR.out.symm, hbW⟩
  case pos =>
    cases h5 : inB s 0 rs.length with
    | false =>
      have HR : Hid (R = false) := HSURE.out h5
      clear HLEN HSURE HNO HALL
      go_enter Tryz.func10, Tryz.ntmps10
      go_wp2_with fail
      rw [hW.out]
      refine (l1In_any _ _ _ W).mono ?_
      rintro e u ⟨rfl, hu⟩
      rw [hu]
      clear hu u
      go_wp2
      go_ret
      exact ⟨ret_bool HR.out.symm, hbW⟩
    | true =>
      go_enter Tryz.func10, Tryz.ntmps10
      go_wp2_with fail
      rw [hW.out]
      refine (l1In_any _ _ _ W).mono ?_
      rintro e u ⟨rfl, hu⟩
      rw [hu]
      clear hu u hW
      go_wp2_with fail
      go_loopw [3] (fun i wr => ∃ k : Nat, k ≤ rs.length ∧ i = .int .i64 k ∧ Hid (∀ j, j < k → (((rs.getD j zeroR).lsn == (j + 1 : Int)) && okR (rs.getD j zeroR).v) = true) ∧ Below W.heap.size W wr) (fun i _ => rs.length - (intOf i).toNat)
      case atStart => exact ⟨0, Nat.zero_le _, rfl, fun j hj => by omega, Below.refl _ _⟩
      case round =>
        obtain ⟨k, hk, rfl, hall, hbl⟩ := hrel
        have hbm : Below w.heap.size w wr := hbW.trans (hbl.mono hbW.size)
        have r0 := (hbl.cell (block_lt c0)).trans c0
        clear c0 c1
        by_cases hlt : k < rs.length
        · obtain ⟨b, off, rfl, hcell, hrd⟩ := HC.out k hlt
          have HR : Hid (wr.rangeAt b (off + k * 15) (rs.getD k zeroR).cells) := range_below hcell hbl
          have x0 : wr.cell? ⟨b, off + k * 15, none⟩ = some (.int .i64 (rs.getD k zeroR).lsn) := HR.out 0 _ rfl
          have C := specRecOk_any (rs.getD k zeroR) wr (hrd.below hbl) (HS.out k hlt)
          have HN : Hid ((((rs.getD k zeroR).lsn == (k + 1 : Int)) && okR (rs.getD k zeroR).v) = false → R = false) := HNO.out k hlt
          have HY : Hid ((((rs.getD k zeroR).lsn == (k + 1 : Int)) && okR (rs.getD k zeroR).v) = true → ∀ j, j < k + 1 → (((rs.getD j zeroR).lsn == (j + 1 : Int)) && okR (rs.getD j zeroR).v) = true) := fun h j hj => by
            by_cases e : j = k
            · rw [e]; exact h
            · exact hall.out j (by omega)
          clear hcell HC HLEN HSURE HNO HALL hall HS hrd
          generalize rs.getD k zeroR = y at *
          cases h6 : (y.lsn == (k + 1 : Int)) with
          | false =>
            have HR2 : Hid (R = false) := HN.out (by rw [h6]; rfl)
            have h6b : (y.lsn != (k : Int) + 1) = true := by simp only [bne, h6, Bool.not_false]
            clear h6
            clear HN HY C
            go_wp2_with fail
            go_ret
            exact ⟨ret_bool HR2.out.symm, hbm⟩
          | true =>
            rw [h6, Bool.true_and] at HN HY
            have h6b : (y.lsn != (k : Int) + 1) = false := by simp only [bne, h6, Bool.not_true]
            clear h6
            cases h7 : okR y.v with
            | false =>
              have HR2 : Hid (R = false) := HN.out h7
              clear HN HY
              rw [h7] at C
              go_wp2_with (first | (guard_target = wpList _ _ _ (Oper.mk (some 38) _ _ _ _ _ :: _) _ _; refine load_if (by rfl) 39 (.tmp 37) rfl b (off + k * 15) rfl y.cells _ HR.out Tryz.underlying39 rfl HI.out ?_) | fail)
              refine C.mono ?_
              rintro e w1 ⟨rfl, hb1⟩
              go_wp2_with fail
              go_ret
              exact ⟨ret_bool HR2.out.symm, hbm.trans (hb1.mono hbm.size)⟩
            | true =>
              have HY2 := HY.out h7
              clear HN HY
              rw [h7] at C
              go_wp2_with (first | (guard_target = wpList _ _ _ (Oper.mk (some 38) _ _ _ _ _ :: _) _ _; refine load_if (by rfl) 39 (.tmp 37) rfl b (off + k * 15) rfl y.cells _ HR.out Tryz.underlying39 rfl HI.out ?_) | fail)
              refine C.mono ?_
              rintro e w1 ⟨rfl, hb1⟩
              clear C
              have hb2 : Below W.heap.size W w1 := hbl.trans (hb1.mono hbl.size)
              go_wp2_with fail
              go_roundw
              case rel => exact ⟨k + 1, by omega, by go_num, HY2, hb2⟩
              case measure => simp [intOf]; omega
        · have HR : Hid (R = true) := HALL.out h4 h5 (fun j hj => hall.out j (by omega))
          clear HLEN HSURE HNO HALL
          go_wp2
          go_ret
          exact ⟨ret_bool HR.out.symm, hbm⟩
end Go.Proofs.YtoboickdkednkaaGreatDoor

/- A row of one record laid by a literal. -/
namespace Go.Proofs.YtoboickdkednkaaGreatDoor
open Go.RowKit

set_option maxRecDepth 100000 in
theorem build_rec {w : World} {ops : Array Oper} {rest : List Oper} {dst : Option Nat} {ty : TypeId} {pos : String} {aft : Array Edge} {act : Act} {Q : Exit → Act → World → Prop} (x : Operand)
    (q : RecA) (hx : act.eval x = .agg q.cells.toArray)
    (h : wpList Tryz.prog ops Q rest (act.put dst (.slice (some ⟨w.heap.size, 0, none⟩) 1 1)) (w.alloc (.cells q.cells.toArray 39))) :
    wpList Tryz.prog ops Q ({ dst := dst, op := .buildSlice 24 1 #[(0, x)], type := ty, pos := pos, after := aft, guard := none } :: rest) act w := by
  refine wpList_plain rfl fun K hK => ?_
  unfold Oper.wp execOp
  simp only [List.map_toArray, List.map_cons, List.map_nil, hx]
  go_simp
  simp only [cellsR_len, lit_rec, not_true_eq_false, Nat.lt_irrefl, or_self, if_false]
  go_simp
  exact hK _ _ h
end Go.Proofs.YtoboickdkednkaaGreatDoor

/- The walk of spec.Append. -/
namespace Go.Proofs.YtoboickdkednkaaGreatDoor
open Go.RowKit

theorem Within.touch1 {B : Nat} {w w' : World} (h : Within B (B + 1) w w') : Touch [B] w w' := ⟨h.os, h.tape, h.output, h.size, fun k hk hn => h.block k hk (fun hh => hn (List.mem_singleton.2 (by omega)))⟩
/-- A box of a log is none of the rows of records, nor of what hangs at them: their kinds differ. -/
theorem log_apart {w : World} {B lo hi : Nat} {vs : List Value} {a : Option Addr} {c : Nat} {rs : List RecA} (b : Box w B vs 26) (h : OwnRs w lo hi a c rs) : B ∉ blocksRs a c rs := by
  intro hm
  have hb : w.heap[B]? = some (.cells vs.toArray 26 (0, 0)) := b
  have no : ∀ {b2 s2 n2 : Nat} {e2 : TypeId} {v2 : Value} {x2 : List Value}, w.ownsRow b2 e2 s2 v2 n2 x2 → v2.ownBlock = some B → e2 = 26 := by
    intro b2 s2 n2 e2 v2 x2 h2 hk2
    obtain ⟨cur2, hc2⟩ := ownsRow_at h2 hk2
    rw [hb] at hc2
    simp only [Option.some.injEq, Obj.cells.injEq] at hc2
    exact hc2.2.1.symm
  simp only [blocksRs, List.mem_append, List.mem_flatMap, Option.mem_toList] at hm
  rcases hm with h1 | ⟨r, hr, h1⟩
  · have := no h.row h1; cases this
  · have hr' := h.each r hr
    simp only [RecA.blocks, SlotA.blocks, List.mem_append, Option.mem_toList] at h1
    rcases h1 with (h1 | h1) | (h1 | h1) | h1
    · have := no hr'.bf.ints.1 h1; cases this
    · have := no hr'.bf.refs.1 h1; cases this
    · have := no hr'.af.ints.1 h1; cases this
    · have := no hr'.af.refs.1 h1; cases this
    · have := no hr'.txs.1 h1; cases this

def RecA.at (r : RecA) (n : Int) : RecA := { r with lsn := n }
theorem at_v (r : RecA) (n : Int) : (r.at n).v = lsnR r.v n := rfl
theorem own_at {w : World} {lo hi : Nat} {r : RecA} (h : r.own w lo hi) (n : Int) : (r.at n).own w lo hi := ⟨h.bf, h.af, h.txs, h.apart⟩
theorem short_at {r : RecA} {m : Nat} (h : r.short m) (n : Int) : (r.at n).short m := ⟨h.bf, h.af, h.txs⟩
theorem appendOf_no {l : LogV} {r : RecV} (h : okLog l = false ∨ l.recs.length = 4000 ∨ okR (lsnR r (l.recs.length + 1)) = false) : appendOf l r = (l, 0) := by
  unfold appendOf
  rw [if_neg]
  rintro ⟨h1, h2, h3⟩
  rcases h with h | h | h
  · rw [h] at h1; cases h1
  · exact h2 h
  · rw [h] at h3; cases h3
theorem appendOf_yes {l : LogV} {r : RecV} (h1 : okLog l = true) (h2 : l.recs.length ≠ 4000) (h3 : okR (lsnR r (l.recs.length + 1)) = true) : appendOf l r = ((⟨l.recs ++ [lsnR r (l.recs.length + 1)], l.sure⟩ : LogV), (l.recs.length : Int) + 1) := by unfold appendOf; rw [if_pos ⟨h1, h2, h3⟩]
theorem rec_set {w : World} {B : Nat} {q : RecA} (b : Box w B q.cells 39) (n : Int) : ∃ W, Hid (w.setCell ⟨B, 0, none⟩ (.int .i64 n) = W) ∧ Box W B (q.at n).cells 39 ∧ Within B (B + 1) w W ∧ W.heap.size = w.heap.size := by
  obtain ⟨W, hW, bW, hw, hs⟩ := box_set b 0 (.int .i64 n)
  exact ⟨W, hW, bW, hw, hs⟩

set_option maxHeartbeats 8000000 in
set_option maxRecDepth 100000 in
theorem specAppend_any (l : LogA) (r : RecA) (w : World) (hr : l.reads w) (hl : l.short 1048576) (hcp : ∀ r ∈ l.recs, r.aL = none → r.cL = 0) (hrr : r.reads w) (hrs : r.short 1099511627776) (hrc : r.aL = none → r.cL = 0) :
    Calls Tryz.prog 16 #[.agg l.cells.toArray, .agg r.cells.toArray] w fun e w' => ∃ (t : LogA) (n : Int), e = .returned (.tuple #[.agg t.cells.toArray, .int .i64 n]) ∧ Hid ((t.v, n) = appendOf l.v r.v) ∧ t.own w' w.heap.size w'.heap.size ∧ Below w.heap.size w w' := by
  have HNO : Hid (okLog l.v = false ∨ l.recs.length = 4000 ∨ okR (lsnR r.v (l.recs.length + 1)) = false → appendOf l.v r.v = (l.v, 0)) := fun h => appendOf_no (by rw [l.v_len]; exact h)
  have HYES : Hid (okLog l.v = true → l.recs.length ≠ 4000 → okR (lsnR r.v (l.recs.length + 1)) = true → appendOf l.v r.v = (⟨l.v.recs ++ [lsnR r.v (l.recs.length + 1)], l.sure⟩, (l.recs.length : Int) + 1)) := fun h1 h2 h3 => by have := appendOf_yes h1 (by rw [l.v_len]; exact h2) (by rw [l.v_len]; exact h3); rw [l.v_len] at this; exact this
  have hll := hl.len
  obtain ⟨W, hW, b0, b1, b2, hbW, hsW⟩ := boxes3 w l.cells r.cells [.slice none 0 0, .int .i64 0] 26 39 26
  have hs0 : w.heap.size + 1 + 1 < W.heap.size := by omega
  clear hsW
  have HI : Hid ((Tryz.prog.info? 39).map (·.size) = some 15) := by rw [Hid]; kernel_rfl
  have HX : Hid (∀ u, Below W.heap.size W u → Box u w.heap.size l.cells 26) := fun u hu => b0.below hu b0.lt
  have HR1 : Hid (∀ u, Below W.heap.size W u → u.rangeAt (w.heap.size + 1) 0 r.cells) := fun u hu => Box.range [] r.cells [] (by simpa using b1.below hu b1.lt)
  have HW2 : Hid (∀ u, Below W.heap.size W u → Box u (w.heap.size + 1 + 1) [.slice none 0 0, .int .i64 0] 26) := fun u hu => b2.below hu b2.lt
  have C1 := l5Copy_any l W (hr.below hbW) hl hcp
  simp only [LogA.cells] at b0 hW HX C1 ⊢
  have x0 := b0.cell 0 _ rfl
  have x1 := b0.cell 1 _ rfl
  clear b0 b1 b2
  go_enter Tryz.func16, Tryz.ntmps16
  go_wp2_with fail
  rw [hW.out]
  clear hW
  refine C1.mono ?_
  clear C1 x0 x1
  rintro e w1 ⟨t, rfl, hv, ho, hb1⟩
  have hs1 := hb1.size
  obtain ⟨W2, hW2, k6, hb2, hs2⟩ := boxes1 w1 [.slice t.a t.recs.length t.c, .int .i64 t.sure] 26
  have hlt2 := k6.lt
  have hs2' := hb2.size
  clear hs2
  have B2 : Below W.heap.size W W2 := hb1.trans (hb2.mono hs1)
  have ot : LogA.own W2 W.heap.size w1.heap.size t := LogA.own.below ho hb2
  have HV : Hid (t.v = l.v) := hv.out
  have HTL : Hid (t.recs.length = l.recs.length ∧ t.sure = l.sure ∧ t.recs.map RecA.v = l.v.recs) := by
    have h := hv.out
    simp only [LogA.v, LogV.mk.injEq] at h
    exact ⟨mapV_len h.1, h.2, h.1⟩
  have C2 := l5CopyRec_own r W2 (hrr.below (hbW.trans (B2.mono hbW.size))) hrs hrc
  clear hv ho hb1 hb2
  go_upto_region 2 with fail
  rw [hW2.out]
  clear hW2
  go_wp2_with (first | (guard_target = wpList _ _ _ (Oper.mk (some 10) _ _ _ _ _ :: _) _ _; refine wpList_load_mid rfl 39 (.tmp 3) rfl (w.heap.size + 1) 0 rfl r.cells _ (HR1.out _ B2) Tryz.underlying39 rfl HI.out ?_) | fail)
  refine C2.mono ?_
  clear C2
  rintro e w3 ⟨q, rfl, hq, oq, hb3⟩
  have hs3 := hb3.size
  have B3 : Below W.heap.size W w3 := B2.trans (hb3.mono (by omega))
  have k63 := k6.below hb3 k6.lt
  have ot3 := LogA.own.below ot hb3
  have HQS : Hid (q.short 1099511627776) := Go.Proofs.YtoboickdkednkaaGreatDoor.short_of hq.out hrs
  have HQV : Hid (q.v = r.v) := hq.out
  clear k6 ot hb3 hq B2
  obtain ⟨W4, hW4, z4, hb4, hs4⟩ := boxes1 w3 [.int .i64 0, .int .i64 0, .int .i64 0, .int .i64 0, .int .i64 0, .bool false, .int .i64 0, .slice none 0 0, .slice none 0 0, .bool false, .int .i64 0, .slice none 0 0, .slice none 0 0, .int .i64 0, .slice none 0 0] 39
  obtain ⟨W5, hW5, hw5, hs5, HT5, _, z5⟩ := rec_out q _ rfl z4
  have N5 : Below w3.heap.size w3 W5 := hb4.trans (hw5.below (Nat.le_refl _) (by omega))
  have hlt5 := z5.lt
  have B5 : Below W.heap.size W W5 := B3.trans (N5.mono (by omega))
  have k65 := k63.below N5 k63.lt
  have ot5 := LogA.own.below ot3 N5
  have oq5 := oq.below N5
  have hs5' := N5.size
  have hOq := rec_one q
  clear z4 hb4 hw5 hs4 hs5 k63 ot3 oq N5
  have p0 := (HX.out W5 B5).cell 0 _ rfl
  have zc := z5.cell 0 _ rfl
  have zf := z5.frozen 0
  go_upto_region 3 with (first | (guard_target = wpList _ _ _ (Oper.mk none (Op.store _ (Operand.tmp 7) _) _ _ _ _ :: _) _ _; refine wpList_store_mid rfl 39 (.tmp 7) (.tmp 11) rfl w3.heap.size 0 q.cells.toArray rfl rfl (by rw [hW4.out]; exact HT5.out) HI.out hOq ?_) | fail)
  rw [hW4.out, hW5.out]
  clear hW4 hW5 HT5 hOq
  obtain ⟨W6, hW6, z6, hw6, hs6⟩ := rec_set z5 ((l.recs.length : Int) + 1)
  have hs6a := Nat.le_of_eq hs6
  have hs6b := Nat.le_of_eq hs6.symm
  clear hs6 z5
  have B6 : Below W.heap.size W W6 := B5.trans (hw6.below (by omega) (by omega))
  have k66 := k65.within hw6 (by omega)
  have ot6 := LogA.own.within ot5 hw6 (.inl (by omega))
  have oq6 := own_at (oq5.within hw6 (.inl (by omega))) ((l.recs.length : Int) + 1)
  have HQS6 : Hid ((q.at ((l.recs.length : Int) + 1)).short 1099511627776) := short_at HQS.out _
  have HXV : Hid ((q.at ((l.recs.length : Int) + 1)).v = lsnR r.v ((l.recs.length : Int) + 1)) := by rw [Hid, at_v, HQV.out]
  have HX0 : Hid ((q.at ((l.recs.length : Int) + 1)).lsn = (l.recs.length : Int) + 1) := rfl
  have D6 : Below w.heap.size w W6 := hbW.trans (B6.mono hbW.size)
  clear hw6 k65 ot5 oq5 B5 HQS
  go_upto_region 4 with fail
  rw [hW6.out]
  clear hW6 p0 zc zf
  generalize q.at ((l.recs.length : Int) + 1) = x at *
  have C3 := specLogOk_any l W6 (hr.below D6) (LogA.short_wide hl)
  simp only [LogA.cells] at C3
  have p0 := (HX.out W6 B6).cell 0 _ rfl
  have p1 := (HX.out W6 B6).cell 1 _ rfl
  go_wp2_with fail
  refine C3.mono ?_
  clear C3 p0 p1
  generalize okLog l.v = R at *
  rintro e w7 ⟨rfl, hb7⟩
  have hs7 := hb7.size
  have B7 : Below W.heap.size W w7 := B6.trans (hb7.mono (by omega))
  have k67 := k66.below hb7 k66.lt
  have z7 := z6.below hb7 z6.lt
  have ot7 := LogA.own.below ot6 hb7
  have ox7 := oq6.below hb7
  have D7 : Below w.heap.size w w7 := D6.trans (hb7.mono D6.size)
  clear k66 z6 ot6 oq6 hb7 B6 D6
  have p0 := (HX.out w7 B7).cell 0 _ rfl
  cases R with
  | false =>
    have HOUT : Hid ((t.v, (0 : Int)) = appendOf l.v r.v) := by rw [Hid, HNO.out (.inl rfl), HV.out]
    have k6 := k67
    have k2 := HW2.out w7 B7
    have ot := ot7
    have DD := D7
    clear k67 ot7 D7 HNO HYES HTL z7 ox7
    have e0 := k6.cell 0 _ rfl
    have e1 := k6.cell 1 _ rfl
    have m0 := k2.cell 0 _ rfl
    have m1 := k2.cell 1 _ rfl
    have mf0 := k2.frozen 0
    have mf1 := k2.frozen 1
    obtain ⟨WF, hWF, bF, hwF, hsF⟩ := box2_fill k2 (.slice t.a t.recs.length t.c) (.int .i64 t.sure)
    have q0 := bF.cell 0 _ rfl
    have q1 := bF.cell 1 _ rfl
    have hoF := (LogA.own.within ot hwF (.inr (by omega))).widen (show w.heap.size ≤ W.heap.size by omega) (show w1.heap.size ≤ WF.heap.size by omega) (Nat.le_refl _)
    have hbF : Below w.heap.size w WF := DD.trans (hwF.below (by omega) (by omega))
    have HF : Hid (_ ∧ _ ∧ _) := ⟨HOUT, hoF, hbF⟩
    clear hwF hsF bF hoF hbF HOUT
    go_wp2_with fail
    rw [hWF.out]
    exact bodyPost_ret (v := .tuple #[.agg #[.slice t.a t.recs.length t.c, .int .i64 t.sure], .int .i64 0]) (by simp [results, Tryz.results16, go_sem, q0, q1]) rfl ⟨t, 0, rfl, HF.out.1, HF.out.2.1, HF.out.2.2⟩
  | true =>
    by_cases h4 : l.recs.length = 4000
    · have HOUT : Hid ((t.v, (0 : Int)) = appendOf l.v r.v) := by rw [Hid, HNO.out (.inr (.inl h4)), HV.out]
      have h4b : ((l.recs.length : Int) == 4000) = true := by simp only [beq_iff_eq]; omega
      have k6 := k67
      have k2 := HW2.out w7 B7
      have ot := ot7
      have DD := D7
      clear k67 ot7 D7 HNO HYES HTL z7 ox7 h4
      have e0 := k6.cell 0 _ rfl
      have e1 := k6.cell 1 _ rfl
      have m0 := k2.cell 0 _ rfl
      have m1 := k2.cell 1 _ rfl
      have mf0 := k2.frozen 0
      have mf1 := k2.frozen 1
      obtain ⟨WF, hWF, bF, hwF, hsF⟩ := box2_fill k2 (.slice t.a t.recs.length t.c) (.int .i64 t.sure)
      have q0 := bF.cell 0 _ rfl
      have q1 := bF.cell 1 _ rfl
      have hoF := (LogA.own.within ot hwF (.inr (by omega))).widen (show w.heap.size ≤ W.heap.size by omega) (show w1.heap.size ≤ WF.heap.size by omega) (Nat.le_refl _)
      have hbF : Below w.heap.size w WF := DD.trans (hwF.below (by omega) (by omega))
      have HF : Hid (_ ∧ _ ∧ _) := ⟨HOUT, hoF, hbF⟩
      clear hwF hsF bF hoF hbF HOUT
      go_wp2_with fail
      rw [hWF.out]
      exact bodyPost_ret (v := .tuple #[.agg #[.slice t.a t.recs.length t.c, .int .i64 t.sure], .int .i64 0]) (by simp [results, Tryz.results16, go_sem, q0, q1]) rfl ⟨t, 0, rfl, HF.out.1, HF.out.2.1, HF.out.2.2⟩
    · have h4b : ((l.recs.length : Int) == 4000) = false := by simp only [beq_eq_false_iff_ne]; omega
      have C4 := specRecOk_any x w7 ox7.reads HQS6.out
      have HRX : Hid (w7.rangeAt w3.heap.size 0 x.cells) := Box.range [] x.cells [] (by simpa using z7)
      go_wp2_with (first | (guard_target = wpList _ _ _ (Oper.mk (some 27) _ _ _ _ _ :: _) _ _; refine load_if (by rfl) 39 (.tmp 7) rfl w3.heap.size 0 rfl x.cells _ HRX.out Tryz.underlying39 rfl HI.out ?_) | fail)
      refine C4.mono ?_
      clear C4 HRX p0
      rintro e w8 ⟨rfl, hb8⟩
      have hs8 := hb8.size
      have B8 : Below W.heap.size W w8 := B7.trans (hb8.mono (by omega))
      have k68 := k67.below hb8 k67.lt
      have z8 := z7.below hb8 z7.lt
      have ot8 := LogA.own.below ot7 hb8
      have ox8 := ox7.below hb8
      have D8 : Below w.heap.size w w8 := D7.trans (hb8.mono D7.size)
      clear k67 z7 ot7 ox7 hb8 B7 D7
      cases hR : okR x.v with
      | false =>
        have HOUT : Hid ((t.v, (0 : Int)) = appendOf l.v r.v) := by rw [Hid, HNO.out (.inr (.inr (by rw [← HXV.out]; exact hR))), HV.out]
        have k6 := k68
        have k2 := HW2.out w8 B8
        have ot := ot8
        have DD := D8
        clear k68 ot8 D8 HNO HYES HTL z8 ox8 h4
        have e0 := k6.cell 0 _ rfl
        have e1 := k6.cell 1 _ rfl
        have m0 := k2.cell 0 _ rfl
        have m1 := k2.cell 1 _ rfl
        have mf0 := k2.frozen 0
        have mf1 := k2.frozen 1
        obtain ⟨WF, hWF, bF, hwF, hsF⟩ := box2_fill k2 (.slice t.a t.recs.length t.c) (.int .i64 t.sure)
        have q0 := bF.cell 0 _ rfl
        have q1 := bF.cell 1 _ rfl
        have hoF := (LogA.own.within ot hwF (.inr (by omega))).widen (show w.heap.size ≤ W.heap.size by omega) (show w1.heap.size ≤ WF.heap.size by omega) (Nat.le_refl _)
        have hbF : Below w.heap.size w WF := DD.trans (hwF.below (by omega) (by omega))
        have HF : Hid (_ ∧ _ ∧ _) := ⟨HOUT, hoF, hbF⟩
        clear hwF hsF bF hoF hbF HOUT
        go_wp2_with fail
        rw [hWF.out]
        exact bodyPost_ret (v := .tuple #[.agg #[.slice t.a t.recs.length t.c, .int .i64 t.sure], .int .i64 0]) (by simp [results, Tryz.results16, go_sem, q0, q1]) rfl ⟨t, 0, rfl, HF.out.1, HF.out.2.1, HF.out.2.2⟩
      | true =>
        have HAP := HYES.out (by first | rfl | trivial) h4 (by rw [← HXV.out]; exact hR)
        have HAP' : Hid (appendOf l.v r.v = _) := HAP
        clear HNO HYES HAP
        have e0 := k68.cell 0 _ rfl
        have HRX : Hid (w8.rangeAt w3.heap.size 0 x.cells) := Box.range [] x.cells [] (by simpa using z8)
        obtain ⟨W9, hW9, y9, hb9, hs9⟩ := boxes1 w8 x.cells 39
        have hlt9 := y9.lt
        have hs9' := hb9.size
        clear hs9
        have R9 : Hid (W9.rangeAt w8.heap.size 0 x.cells) := Box.range [] x.cells [] (by simpa using y9)
        have B9 : Below W.heap.size W W9 := B8.trans (hb9.mono (by omega))
        have k69 := k68.below hb9 k68.lt
        have z9 := z8.below hb9 z8.lt
        have ot9 := LogA.own.below ot8 hb9
        have ox9 := ox8.below hb9
        have D9 : Below w.heap.size w W9 := D8.trans (hb9.mono D8.size)
        have hll9 : t.recs.length + 1 ≤ 68719476736 := by have := HTL.out.1; omega
        have hs12 : W.heap.size ≤ w1.heap.size := hs1
        go_wp2_with (first | (guard_target = wpList _ _ _ (Oper.mk (some 34) _ _ _ _ _ :: _) _ _; refine wpList_load_mid rfl 39 (.tmp 7) rfl w3.heap.size 0 rfl x.cells _ HRX.out Tryz.underlying39 rfl HI.out ?_) | (guard_target = wpList _ _ _ (Oper.mk (some 35) _ _ _ _ _ :: _) _ _; refine build_rec (.tmp 34) x rfl ?_; rw [hW9.out]) | (at_builtin; refine append_rec rfl _ _ rfl W.heap.size w1.heap.size t.a t.c t.recs rfl ot9 w8.heap.size 0 1 x rfl R9.out W2.heap.size w3.heap.size ox9 (by omega) (by omega) hll9 (by omega) ?_))
        intro a10 c10 w10 o10 g10
        have hw10 : Within W.heap.size w1.heap.size W9 w10 := Within.of_grown g10 (fun j hj => ⟨(OwnRs.row ot9).lt j hj |>.1, OwnRs.blk ot9 j hj⟩)
        have hs10 := hw10.size
        have k6a := k69.within hw10 (by omega)
        have z10 := z9.within hw10 (by omega)
        have B10 : Below W.heap.size W w10 := B9.trans (hw10.below (Nat.le_refl _) (by omega))
        have D10 : Below w.heap.size w w10 := hbW.trans (B10.mono hbW.size)
        have e0 := k6a.cell 0 _ rfl
        have ef0 := k6a.frozen 0
        obtain ⟨W11, hW11, k6b, hw11, hs11⟩ := box_set k6a 0 (.slice a10 (t.recs.length + 1) c10)
        simp only [List.set] at k6b
        have hs11a := Nat.le_of_eq hs11
        have hs11b := Nat.le_of_eq hs11.symm
        clear hs11
        have z11 := z10.within hw11 (by omega)
        have B11 : Below W.heap.size W W11 := B10.trans (hw11.below (by omega) (by omega))
        have oRow := o10.touch hw11.touch1 (fun k hk hk' => log_apart k6a o10 (by rw [← List.mem_singleton.1 hk']; exact hk))
        have k2b := HW2.out W11 B11
        have D11 : Below w.heap.size w W11 := hbW.trans (B11.mono hbW.size)
        have HFV : Hid ((⟨t.recs ++ [x], t.sure, a10, c10⟩ : LogA).v = (⟨l.v.recs ++ [lsnR r.v ((l.recs.length : Int) + 1)], l.sure⟩ : LogV)) := by
          have e3 := HTL.out.2.2
          simp only [Hid, LogA.v, List.map_append, List.map_cons, List.map_nil, HXV.out, HTL.out.2.1]
          rw [e3]
          rfl
        go_upto_region 7 with fail
        rw [hW11.out]
        clear hW11 e0 ef0 hw10 hw11 k6a z10 k69 z9 ot9 ox9 g10 R9 hW9
        obtain ⟨WF, hWF, bF, hwF, hsF⟩ := box2_fill k2b (.slice a10 (t.recs.length + 1) c10) (.int .i64 t.sure)
        have q0 := bF.cell 0 _ rfl
        have q1 := bF.cell 1 _ rfl
        have hoF : (⟨t.recs ++ [x], t.sure, a10, c10⟩ : LogA).own WF w.heap.size WF.heap.size := (oRow.within hwF (.inr (by omega))).widen (show w.heap.size ≤ W.heap.size by omega) (show w10.heap.size ≤ WF.heap.size by omega) (Nat.le_refl _)
        have hbF : Below w.heap.size w WF := D11.trans (hwF.below (by omega) (by omega))
        have hoD : (⟨t.recs ++ [x], t.sure, a10, c10⟩ : LogA).own WF.drew w.heap.size WF.drew.heap.size := hoF.below (Below.refl _ _).drew
        have HF : Hid (_ ∧ _ ∧ _) := ⟨HFV.out, hoD, hbF.drew⟩
        clear hoD
        have HS : Hid (∀ u, Within (w.heap.size + 1 + 1) (w.heap.size + 1 + 1 + 1) W11 u → (u.cell? ⟨w1.heap.size, 0, none⟩ = some (.slice a10 (t.recs.length + 1) c10) ∧ u.cell? ⟨w1.heap.size, 1, none⟩ = some (.int .i64 t.sure)) ∧ u.cell? ⟨w3.heap.size, 0, none⟩ = some (.int .i64 x.lsn)) := fun u hu => ⟨⟨(k6b.within hu (by omega)).cell 0 _ rfl, (k6b.within hu (by omega)).cell 1 _ rfl⟩, (z11.within hu (by omega)).cell 0 _ rfl⟩
        have m0 := k2b.cell 0 _ rfl
        have m1 := k2b.cell 1 _ rfl
        have mf0 := k2b.frozen 0
        have mf1 := k2b.frozen 1
        have HSF : Hid _ := HS.out WF.drew (hwF.trans (Within.of_below (Below.refl _ _).drew))
        have HLN : Hid (x.lsn = (l.recs.length : Int) + 1) := HX0
        clear hwF hsF bF hoF hbF oRow k6b z11 k2b
        refine wp_region_held_drew (S := fun u => (u.cell? ⟨w1.heap.size, 0, none⟩ = some (.slice a10 (t.recs.length + 1) c10) ∧ u.cell? ⟨w1.heap.size, 1, none⟩ = some (.int .i64 t.sure)) ∧ u.cell? ⟨w3.heap.size, 0, none⟩ = some (.int .i64 x.lsn)) (by kernel_rfl) ?_ (fun hHeld => ?_)
        · exact HS.out _ (Within.of_below (Below.refl _ _).drew)
        refine wpAnyH_take (i := 0) (v := .agg #[.slice a10 (t.recs.length + 1) c10, .int .i64 t.sure]) rfl (by kernel_rfl) (by kernel_rfl) (by kernel_rfl) (fun _ _ _ h => h) (Or.inl ⟨by rfl, ?_⟩) hHeld ?_
        · intro w' hSw
          have hx0 := hSw.1.1
          have hx1 := hSw.1.2
          go_simp <;> rfl
        try simp only [Act.put, List.getElem_toArray, List.getElem_cons_zero, List.setIfInBounds_toArray, List.set_cons_zero, List.set_cons_succ]
        refine wpAnyH_take (i := 1) (v := .pointer (some ⟨w3.heap.size, 0, none⟩)) rfl (by kernel_rfl) (by kernel_rfl) (by kernel_rfl) (fun _ _ _ h => h) (Or.inl ⟨by rfl, ?_⟩) hHeld ?_
        · intro w' hSw
          go_simp <;> rfl
        try simp only [Act.put, List.getElem_toArray, List.getElem_cons_zero, List.getElem_cons_succ, List.setIfInBounds_toArray, List.set_cons_zero, List.set_cons_succ]
        refine wpAnyH_take (i := 2) (v := .int .i64 x.lsn) rfl (by kernel_rfl) (by kernel_rfl) (by kernel_rfl) (fun _ _ _ h => h) (Or.inl ⟨by rfl, ?_⟩) hHeld ?_
        · intro w' hSw
          have hx0 := hSw.2
          go_simp <;> rfl
        try simp only [Act.put, List.getElem_toArray, List.getElem_cons_zero, List.getElem_cons_succ, List.setIfInBounds_toArray, List.set_cons_zero, List.set_cons_succ]
        refine wpAnyH_ready (rs := [3]) (by kernel_rfl) (by simp) ?_
        refine AllReadyH.cons rfl (fun K hK => ?_) AllReadyH.nil
        go_simp
        rw [hWF.out]
        refine hK.out _ _ (HSF.out) (fun hHeld => ?_)
        clear hK K
        try simp only [Act.put, List.getElem_toArray, List.getElem_cons_zero, List.getElem_cons_succ, List.setIfInBounds_toArray, List.set_cons_zero, List.set_cons_succ]
        refine wpAnyH_take (i := 4) (v := .int .i64 x.lsn) rfl (by kernel_rfl) (by kernel_rfl) (by kernel_rfl) (fun _ _ _ h => h) (Or.inl ⟨by rfl, ?_⟩) hHeld ?_
        · intro w' hSw
          go_simp <;> rfl
        try simp only [Act.put, List.getElem_toArray, List.getElem_cons_zero, List.getElem_cons_succ, List.setIfInBounds_toArray, List.set_cons_zero, List.set_cons_succ]
        refine wpAnyH_done (by kernel_rfl) ?_ _
        clear m0 m1 mf0 mf1 hWF
        go_wp2
        exact bodyPost_ret (v := .tuple #[.agg #[.slice a10 (t.recs.length + 1) c10, .int .i64 t.sure], .int .i64 x.lsn]) (by simp [results, Tryz.results16, go_sem, q0, q1]) rfl ⟨⟨t.recs ++ [x], t.sure, a10, c10⟩, x.lsn, by simp, by rw [Hid, HAP'.out, HF.out.1, HLN.out], HF.out.2.1, HF.out.2.2⟩
end Go.Proofs.YtoboickdkednkaaGreatDoor

/- The walk of impl.copyRec. -/
namespace Go.Proofs.YtoboickdkednkaaGreatDoor
open Go.RowKit
attribute [local go_sem ↓] Go.wp_at_zero Go.wp_at_succ

set_option maxHeartbeats 4000000 in
set_option maxRecDepth 100000 in
theorem copyRec_own (r : RecA) (w : World) (hr : r.reads w) (hl : r.short 1099511627776) (hc : r.aL = none → r.cL = 0) :
    Calls Tryz.prog 62 #[.agg r.cells.toArray] w fun e w' => ∃ t : RecA, e = .returned (.agg t.cells.toArray) ∧ Hid (t.v = r.v) ∧ t.own w' w.heap.size w'.heap.size ∧ Below w.heap.size w w' := by
  obtain ⟨W, hW, b0, b1, hbW, hsW⟩ := boxes2 w r.cells [.int .i64 0, .int .i64 0, .int .i64 0, .int .i64 0, .int .i64 0, .bool false, .int .i64 0, .slice none 0 0, .slice none 0 0, .bool false, .int .i64 0, .slice none 0 0, .slice none 0 0, .int .i64 0, .slice none 0 0] 39 39
  have hs0 : w.heap.size + 1 < W.heap.size := by omega
  clear hsW
  have HC1 : Hid (∀ u, Below W.heap.size W u → Calls _ _ _ _ _) := fun u hu => copySlot_own r.bf u (ReadsO.below hr.bf (hbW.trans (hu.mono (by omega)))) hl.bf.1 hl.bf.2
  have HC2 : Hid (∀ u, Below W.heap.size W u → Calls _ _ _ _ _) := fun u hu => copySlot_own r.af u (ReadsO.below hr.af (hbW.trans (hu.mono (by omega)))) hl.af.1 hl.af.2
  have HC : Hid (r.aL = none → r.cL = 0) := hc
  have HWV : Hid (∀ (t1 t2 : SlotA) (aL : Option Addr) (cL : Nat), t1.v = r.bf.v → t2.v = r.af.v → (r.with t1 t2 aL cL).v = r.v) := fun t1 t2 aL cL h1 h2 => with_v h1 h2
  have HWC : Hid (∀ (t1 t2 : SlotA) (aL : Option Addr) (cL : Nat), (r.with t1 t2 aL cL).cells = [.int .i64 r.lsn, .int .i64 r.tx, .int .i64 r.prev, .int .i64 r.kind, .int .i64 r.oid, .bool t1.v.has, .int .i64 t1.v.o.kind, .slice t1.aI t1.v.o.ints.length t1.cI, .slice t1.aR t1.v.o.refs.length t1.cR, .bool t2.v.has, .int .i64 t2.v.o.kind, .slice t2.aI t2.v.o.ints.length t2.cI, .slice t2.aR t2.v.o.refs.length t2.cR, .int .i64 r.next, .slice aL r.txs.length cL]) := fun _ _ _ _ => rfl
  simp only [RecA.cells] at b0 hW ⊢
  simp only [SlotA.cells] at HC1 HC2
  clear hc
  go_enter Tryz.func62, Tryz.ntmps62
  go_wp2_with fail
  rw [hW.out]
  clear hW
  have x5 := b0.cell 5 _ rfl
  have x6 := b0.cell 6 _ rfl
  have x7 := b0.cell 7 _ rfl
  have x8 := b0.cell 8 _ rfl
  have x9 := b0.cell 9 _ rfl
  have x10 := b0.cell 10 _ rfl
  have x11 := b0.cell 11 _ rfl
  have x12 := b0.cell 12 _ rfl
  have HBX : Hid (∀ u, Below W.heap.size W u → Box u w.heap.size _ _) := fun u hu => b0.below hu b0.lt
  have HBY : Hid (∀ u, Below W.heap.size W u → Box u (w.heap.size + 1) _ _) := fun u hu => b1.below hu b1.lt
  clear b0 b1
  go_region_law ((first
    | (go_simp; go_at_call 85; refine (HC1.out _ (Below.refl _ _).drew).mono ?_; clear HC1; rintro e u1 ⟨t1, rfl, hv1, ho1, hb1⟩; have hb1' := (Below.refl W.heap.size W).drew.trans hb1; have z9 := (HBX.out u1 hb1').cell 9 _ rfl; have z10 := (HBX.out u1 hb1').cell 10 _ rfl; have z11 := (HBX.out u1 hb1').cell 11 _ rfl; have z12 := (HBX.out u1 hb1').cell 12 _ rfl)
    | (go_simp; go_at_call 85; refine (HC2.out _ hb1').mono ?_; clear HC2; rintro e u2 ⟨t2, rfl, hv2, ho2, hb2⟩; have hb2' := hb1'.trans (hb2.mono hb1'.size); have y5 := (HBX.out u2 hb2').cell 5 _ rfl; have y6 := (HBX.out u2 hb2').cell 6 _ rfl; have y7 := (HBX.out u2 hb2').cell 7 _ rfl; have y8 := (HBX.out u2 hb2').cell 8 _ rfl; have y9 := (HBX.out u2 hb2').cell 9 _ rfl; have y10 := (HBX.out u2 hb2').cell 10 _ rfl; have y11 := (HBX.out u2 hb2').cell 11 _ rfl; have y12 := (HBX.out u2 hb2').cell 12 _ rfl; have g5 := (HBX.out u2 hb2').frozen 5; have g6 := (HBX.out u2 hb2').frozen 6; have g7 := (HBX.out u2 hb2').frozen 7; have g8 := (HBX.out u2 hb2').frozen 8; have g9 := (HBX.out u2 hb2').frozen 9; have g10 := (HBX.out u2 hb2').frozen 10; have g11 := (HBX.out u2 hb2').frozen 11; have g12 := (HBX.out u2 hb2').frozen 12)
    | fail))
  all_goals
    have hs1 := hb1'.size
    have hs2 := hb2.size
    have b02 := HBX.out u2 hb2'
    have b12 := HBY.out u2 hb2'
    have hB2 : Below w.heap.size w u2 := hbW.trans (hb2'.mono (by omega))
    have ho12 : t1.own u2 W.heap.size u1.heap.size := OwnO.below ho1 hb2
    obtain ⟨Wa, hWa, b0a, hwa, hsa⟩ := box_quad b02 5 6 7 8 (.bool t1.v.has) (.int .i64 t1.v.o.kind) (.slice t1.aI t1.v.o.ints.length t1.cI) (.slice t1.aR t1.v.o.refs.length t1.cR)
    obtain ⟨Wb, hWb, b0b, hwb, hsb⟩ := box_quad b0a 9 10 11 12 (.bool t2.v.has) (.int .i64 t2.v.o.kind) (.slice t2.aI t2.v.o.ints.length t2.cI) (.slice t2.aR t2.v.o.refs.length t2.cR)
    have hsaa := Nat.le_of_eq hsa
    have hsab := Nat.le_of_eq hsa.symm
    have hsba := Nat.le_of_eq hsb
    have hsbb := Nat.le_of_eq hsb.symm
    simp only [List.set] at b0b
    rw [hWa.out, hWb.out]
    have b1b := (b12.within hwa (by omega)).within hwb (by omega)
    have hoA := OwnO.within (OwnO.within ho12 hwa (.inr (by omega))) hwb (.inr (by omega))
    have hoB := OwnO.within (OwnO.within ho2 hwa (.inr (by omega))) hwb (.inr (by omega))
    have hB4 : Below w.heap.size w Wb := (hB2.trans (hwa.below (by omega) (by omega))).trans (hwb.below (by omega) (by omega))
    clear hWa hWb b02 b12 b0a hwa hwb hsa hsb ho1 ho2 ho12 hb1 hb2 hb1' hb2' x5 x6 x7 x8 x9 x10 x11 x12 z9 z10 z11 z12 y5 y6 y7 y8 y9 y10 y11 y12 g5 g6 g7 g8 g9 g10 g11 g12 HBX HBY hB2
    have x14 := b0b.cell 14 _ rfl
    have hA1 : ([] : List LiveV).length + r.txs.length ≤ 1099511627776 := by have := hl.txs; simp only [List.length_nil]; omega
    have hrt : ReadsL Wb r.aL r.txs := hr.txs.below hB4
    have oE := ownL_nil Wb Wb.heap.size Wb.heap.size (Nat.le_refl _)
    go_wp2_with (at_builtin; refine append_lives rfl _ _ rfl Wb.heap.size _ none 0 [] rfl oE r.aL r.cL r.txs rfl hrt HC.out hA1 (Nat.le_refl _) ?_)
    intro aL cL ys w6 hys o6 g6
    have hw6 : Within Wb.heap.size Wb.heap.size Wb w6 := Within.of_grown g6 (fun j hj => by cases hj)
    have hs6 := hw6.size
    have b06 := b0b.within hw6 (by omega)
    have b16 := b1b.within hw6 (by omega)
    have hoA6 := OwnO.within hoA hw6 (.inl (by omega))
    have hoB6 := OwnO.within hoB hw6 (.inl (by omega))
    have hB6 : Below w.heap.size w w6 := hB4.trans (hw6.below (by omega) (by omega))
    obtain rfl : ys = r.txs := hys.out.trans (List.nil_append _)
    clear hys g6 hw6 oE b0b b1b hoA hoB x14 hrt
    have HAP : Hid ((t1.blocks ++ (t2.blocks ++ (Value.slice aL r.txs.length cL).ownBlock.toList)).Nodup) := rec_apart (c := Wb.heap.size) hoA6 (OwnO.widen hoB6 (Nat.le_refl _) (show _ ≤ Wb.heap.size by omega) (by omega)) o6 (by omega)
    have x14 := b06.cell 14 _ rfl
    have f14 := b06.frozen 14
    obtain ⟨W7, hW7, b07, hw7, hs7⟩ := box_set b06 14 (.slice aL r.txs.length cL)
    have hs7a := Nat.le_of_eq hs7
    have hs7b := Nat.le_of_eq hs7.symm
    clear hs7
    simp only [List.set] at b07
    have b17 := b16.within hw7 (by omega)
    have b07' : Box W7 w.heap.size (r.with t1 t2 aL cL).cells 39 := by rw [HWC.out]; exact b07
    have hoA7 := OwnO.within hoA6 hw7 (.inr (by omega))
    have hoB7 := OwnO.within hoB6 hw7 (.inr (by omega))
    have o7 := o6.within hw7 (.inr (by omega))
    have hB7 : Below w.heap.size w W7 := hB6.trans (hw7.below (by omega) (by omega))
    clear hw7 b06 b16 hoA6 hoB6 o6
    go_upto_region 3 with fail
    rw [hW7.out]
    clear x14 f14 hW7
    obtain ⟨WF, hWF, hwF, hsF, HTF, HLF, bF⟩ := rec_out (r.with t1 t2 aL cL) _ rfl b17
    have hsFa := Nat.le_of_eq hsF
    have hsFb := Nat.le_of_eq hsF.symm
    clear hsF
    have hoF : (r.with t1 t2 aL cL).own WF w.heap.size WF.heap.size := ⟨OwnO.widen (OwnO.within hoA7 hwF (.inr (by omega))) (by omega) (by omega) (Nat.le_refl _), OwnO.widen (OwnO.within hoB7 hwF (.inr (by omega))) (by omega) (by omega) (Nat.le_refl _), (o7.within hwF (.inr (by omega))).widen (by omega) (by omega) (Nat.le_refl _), HAP.out⟩
    have hbF : Below w.heap.size w WF := hB7.trans (hwF.below (by omega) (by omega))
    have HF : Hid (_ ∧ _ ∧ _) := ⟨HWV.out t1 t2 aL cL hv1.out hv2.out, hoF, hbF⟩
    have rT : W7.rangeAt w.heap.size 0 (r.with t1 t2 aL cL).cells := Box.range [] _ [] (by simpa using b07')
    clear hoF hbF bF hwF b07 b07' b17 hoA7 hoB7 o7 HAP HWC HWV
    generalize r.with t1 t2 aL cL = TT at *
    go_wp2_with (first | (guard_target = wpList _ _ _ (Oper.mk (some 15) _ _ _ _ _ :: _) _ _; refine wpList_load_mid rfl 39 (.tmp 1) rfl w.heap.size 0 rfl TT.cells _ rT Tryz.underlying39 rfl (rec_info _) ?_) | (guard_target = wpList _ _ _ (Oper.mk none (Op.store _ (Operand.tmp 2) _) _ _ _ _ :: _) _ _; refine wpList_store_mid rfl 39 (.tmp 2) (.tmp 15) rfl (w.heap.size + 1) 0 TT.cells.toArray rfl rfl HTF.out (rec_info _) (rec_one _) ?_) | fail)
    rw [hWF.out]
    exact bodyPost_ret (v := .agg TT.cells.toArray) (results_one Tryz.results62 rfl HLF.out) rfl ⟨TT, rfl, HF.out.1, HF.out.2.1, HF.out.2.2⟩
end Go.Proofs.YtoboickdkednkaaGreatDoor

/- The walks of impl.copyRecs and impl.copyLog. -/
namespace Go.Proofs.YtoboickdkednkaaGreatDoor
open Go.RowKit

set_option maxHeartbeats 2000000 in
set_option maxRecDepth 100000 in
theorem copyRecs_any (a : Option Addr) (cap : Nat) (rs : List RecA) (w : World) (hr : ReadsRs w a rs) (hl : rs.length ≤ 1048576) (hs : ∀ r ∈ rs, r.short 1099511627776) (hcp : ∀ r ∈ rs, r.aL = none → r.cL = 0) :
    Calls Tryz.prog 34 #[.slice a rs.length cap] w fun e w' => ∃ a' c' ts, e = .returned (.slice a' ts.length c') ∧ Hid (ts.map RecA.v = rs.map RecA.v) ∧ OwnRs w' w.heap.size w'.heap.size a' c' ts ∧ Below w.heap.size w w' := by
  obtain ⟨i0, hi, hz0, hz1, hz2⟩ := info_parts Tryz.infoRec
  have HJ : Hid ((Tryz.prog.info? 39).map (·.size) = some 15) := by rw [Hid]; kernel_rfl
  rcases hr.cases with rfl | ⟨b, off, rfl, hpos, hcell⟩
  · have HO : Hid (OwnRs w w.heap.size w.heap.size none 0 []) := ownRs_nil w _ _ (Nat.le_refl _)
    go_enter Tryz.func34, Tryz.ntmps34
    go_wp2
    go_ret
    exact ⟨none, 0, [], rfl, rfl, HO.out, Below.refl _ _⟩
  · have hbB : b < w.heap.size := rangeR_lt (hcell 0 hpos).1
    have hne : ((rs.length : Int) == 0) = false := by simp; intro h; rw [h] at hpos; simp at hpos
    go_enter Tryz.func34, Tryz.ntmps34
    go_wp2_with (at_make; refine wpList_make_full _ rfl _ _ 24 rfl w.heap.size 39 i0 (.agg zeroR.cells.toArray) 15 Tryz.underlying24 hi hz0 hz1 _ _ _ _ rs.length rfl rfl rfl rfl (by rw [hz2]; omega) (by simp [maxLen]; omega) (Nat.le_refl _) ?_)
    intro w0 hown0 hgrow0
    have hb0 : Below w.heap.size w w0 := (Below.refl _ _).grown hgrow0 (Nat.le_refl _) (fun k h => by cases h)
    have ho : w0.ownsRow w.heap.size 39 15 (.slice (some ⟨w.heap.size, 0, none⟩) rs.length rs.length) rs.length (cellsRs (List.replicate rs.length zeroR)) := by
      rw [← zero_cellsRs]
      exact hown0
    have HO : Hid (OwnRs w0 w.heap.size w0.heap.size (some ⟨w.heap.size, 0, none⟩) rs.length (List.replicate rs.length zeroR)) := own_zeroRs _ ho (Nat.le_refl _) (ho.lt _ rfl).2
    clear hown0 hgrow0 ho
    go_wp2
    go_loopw [14] (fun i wr => ∃ (k : Nat) (ts : List RecA), k ≤ rs.length ∧ i = .int .i64 k ∧ Hid (Came rs ts k) ∧ Hid (OwnRs wr w.heap.size wr.heap.size (some ⟨w.heap.size, 0, none⟩) rs.length (ts ++ List.replicate (rs.length - k) zeroR)) ∧ Below w.heap.size w wr)
      (fun i _ => rs.length - (intOf i).toNat)
    case atStart => exact ⟨0, [], Nat.zero_le _, rfl, came_none rs, HO, hb0⟩
    case round =>
      obtain ⟨k, ts, hk, rfl, hc, hown, hnx⟩ := hrel
      by_cases hlt : k < rs.length
      · obtain ⟨c0, c1⟩ := hcell k hlt
        have HR : Hid (wr.rangeAt b (off + k * 15) (rs.getD k zeroR).cells) := rangeAt_below c0 hnx hbB
        have hrd : (rs.getD k zeroR).reads wr := c1.below hnx
        have hsh : (rs.getD k zeroR).short 1099511627776 := hs _ (recD_mem rs k hlt)
        have hnc := hcp _ (recD_mem rs k hlt)
        have HS : Hid (∀ q : RecA, q.v = (rs.getD k zeroR).v → Came rs (ts ++ [q]) (k + 1)) := fun q hq => hc.out.snoc hlt hq
        have HP : Hid (ts ++ List.replicate (rs.length - k) zeroR = ts ++ zeroR :: List.replicate (rs.length - (k + 1)) zeroR ∧ (ts ++ zeroR :: List.replicate (rs.length - (k + 1)) zeroR).length = rs.length ∧ ts.length = k) := by
          have e : rs.length - k = (rs.length - (k + 1)) + 1 := by omega
          refine ⟨by rw [e, List.replicate_succ], ?_, hc.out.1⟩
          have := hc.out.1
          simp
          omega
        clear c0 c1 hcell hb0 HO hs hcp
        generalize rs.getD k zeroR = z at *
        obtain ⟨W1, hW1, b1, hb1, hs1⟩ := boxes1 wr [.int .i64 0, .int .i64 0, .int .i64 0, .int .i64 0, .int .i64 0, .bool false, .int .i64 0, .slice none 0 0, .slice none 0 0, .bool false, .int .i64 0, .slice none 0 0, .slice none 0 0, .int .i64 0, .slice none 0 0] 39
        obtain ⟨W2, hW2, hw2, hs2, HT2, _, b2⟩ := rec_out z _ rfl b1
        have B2 : Below wr.heap.size wr W2 := hb1.trans (hw2.below (Nat.le_refl _) (by omega))
        have R2 : Hid (W2.rangeAt wr.heap.size 0 z.cells) := Box.range [] z.cells [] (by simpa using b2)
        have C := copyRec_own z W2 (hrd.below B2) hsh hnc
        have N2 : Below w.heap.size w W2 := hnx.trans (B2.mono hnx.size)
        have O2 : Hid _ := hown.out.below B2
        have hOz := rec_one z
        have hsw2 := B2.size
        have hszw := hnx.size
        clear hs1 hs2 b1 b2 hb1 hw2 hrd hsh hnc hown hnx B2
        go_wp2_with (first | (guard_target = wpList _ _ _ (Oper.mk (some 18) _ _ _ _ _ :: _) _ _; refine wpList_load_mid rfl 39 (.tmp 17) rfl b (off + k * 15) rfl z.cells _ HR.out Tryz.underlying39 rfl HJ.out ?_) | (guard_target = wpList _ _ _ (Oper.mk none (Op.store _ (Operand.tmp 5) _) _ _ _ _ :: _) _ _; refine wpList_store_mid rfl 39 (.tmp 5) (.tmp 18) rfl wr.heap.size 0 z.cells.toArray rfl rfl (by rw [hW1.out]; exact HT2.out) HJ.out hOz ?_) | (guard_target = wpList _ _ _ (Oper.mk (some 21) _ _ _ _ _ :: _) _ _; refine wpList_load_mid rfl 39 (.tmp 5) rfl wr.heap.size 0 rfl z.cells _ (by rw [hW1.out, hW2.out]; exact R2.out) Tryz.underlying39 rfl HJ.out ?_) | fail)
        rw [hW1.out, hW2.out]
        refine C.mono ?_
        clear C HR hW1 hW2 HT2 R2 hOz
        rintro e w3 ⟨q, rfl, hq, hqo, hb3⟩
        have hs3 := hb3.size
        have ho1 := O2.out.below hb3
        rw [HP.out.1] at ho1
        obtain ⟨W4, hW4, ho4, ht4, hs4⟩ := ho1.fill q hqo (by omega) (by omega) (Nat.le_refl _)
        rw [HP.out.2.2] at hW4
        have HT : Hid (w3.there w.heap.size (k * 15) 15) := (row_rec ho1.row rfl k (by rw [HP.out.2.1]; exact hlt)).2
        have hB4 : Below w.heap.size w W4 := (N2.trans (hb3.mono (by omega))).trans ((ht4.within (lo := w.heap.size) (hi := w.heap.size + 1) (fun j hj => by obtain rfl := List.mem_singleton.1 hj; omega)).below (Nat.le_refl _) (by omega))
        have HH : Hid (OwnRs W4 w.heap.size W4.heap.size (some ⟨w.heap.size, 0, none⟩) rs.length ((ts ++ [q]) ++ List.replicate (rs.length - (k + 1)) zeroR)) := by
          have := ho4.widen (Nat.le_refl _) (show max wr.heap.size w3.heap.size ≤ W4.heap.size by omega) (Nat.le_refl _)
          rw [List.append_assoc, List.singleton_append]
          exact this
        have HB : Hid _ := hB4
        have HC := HS.out q hq.out
        have HO1 := rec_one q
        clear ho1 ho4 ht4 hs4 hB4 hqo hb3 N2 O2 hq HS hs3 hsw2 hszw
        go_wp2_with (first | (guard_target = wpList _ _ _ (Oper.mk none (Op.store _ (Operand.tmp 23) _) _ _ _ _ :: _) _ _; refine wpList_store_mid rfl 39 (.tmp 23) (.tmp 22) rfl w.heap.size (k * 15) q.cells.toArray rfl rfl HT.out HJ.out HO1 ?_) | fail)
        rw [hW4.out]
        go_roundw
        case rel => exact ⟨k + 1, ts ++ [q], by omega, by go_num, HC, HH, HB.out⟩
        case measure => simp [intOf]; omega
      · have HE : Hid (ts.map RecA.v = rs.map RecA.v ∧ OwnRs wr w.heap.size wr.heap.size (some ⟨w.heap.size, 0, none⟩) rs.length ts ∧ ts.length = rs.length) := by
          have e : k = rs.length := by omega
          rw [e] at hown hc
          rw [Nat.sub_self, List.replicate_zero, List.append_nil] at hown
          exact ⟨hc.out.all, hown.out, hc.out.1⟩
        go_wp2
        go_ret
        exact ⟨some ⟨w.heap.size, 0, none⟩, rs.length, ts, by rw [HE.out.2.2]; rfl, HE.out.1, HE.out.2.1, hnx⟩

theorem OwnRs.caps {w : World} {lo hi : Nat} {a : Option Addr} {c : Nat} {rs : List RecA} (h : OwnRs w lo hi a c rs) : ∀ r ∈ rs, r.aL = none → r.cL = 0 := fun r hr => (h.each r hr).txs.nocap

set_option maxHeartbeats 2000000 in
set_option maxRecDepth 100000 in
theorem copyLog_any (l : LogA) (w : World) (hr : l.reads w) (hl : l.short 1048576) (hcp : ∀ r ∈ l.recs, r.aL = none → r.cL = 0) :
    Calls Tryz.prog 32 #[.agg l.cells.toArray] w fun e w' => ∃ t : LogA, e = .returned (.agg t.cells.toArray) ∧ Hid (t.v = l.v) ∧ t.own w' w.heap.size w'.heap.size ∧ Below w.heap.size w w' := by
  obtain ⟨rs, s, a, c⟩ := l
  obtain ⟨hl1, hl2⟩ := LogA.short_wide hl
  have hl0 := hl.len
  simp only [LogA.reads, LogA.cells, LogA.own] at *
  obtain ⟨W, hW, b0, b1, hbW, hsW⟩ := boxes2 w [.slice a rs.length c, .int .i64 s] [.slice none 0 0, .int .i64 0] 26 26
  have hs0 : w.heap.size + 1 < W.heap.size := by omega
  clear hsW
  have HC : Hid (∀ u, Below W.heap.size W u → Calls _ _ _ _ _) := fun u hu => copyRecs_any a c rs u (hr.below (hbW.trans (hu.mono (by omega)))) hl0 hl2 hcp
  have HBX : Hid (∀ u, Below W.heap.size W u → Box u w.heap.size _ _) := fun u hu => b0.below hu b0.lt
  have HBY : Hid (∀ u, Below W.heap.size W u → Box u (w.heap.size + 1) _ _) := fun u hu => b1.below hu b1.lt
  have x0 := b0.cell 0 _ rfl
  have x1 := b0.cell 1 _ rfl
  clear b0 b1 hr hl hl0 hl1 hl2 hcp
  go_enter Tryz.func32, Tryz.ntmps32
  go_wp2_with fail
  rw [hW.out]
  clear hW
  go_region_law ((first
    | (go_simp; go_at_call 34; refine (HC.out _ (Below.refl _ _).drew).mono ?_; clear HC; rintro e u1 ⟨a', c', ts, rfl, hv1, ho1, hb1⟩; have hb1' := (Below.refl W.heap.size W).drew.trans hb1; have z1 := (HBX.out u1 hb1').cell 1 _ rfl; have y0 := (HBY.out u1 hb1').cell 0 _ rfl; have y1 := (HBY.out u1 hb1').cell 1 _ rfl; have g0 := (HBY.out u1 hb1').frozen 0; have g1 := (HBY.out u1 hb1').frozen 1)
    | fail))
  all_goals
    have hs1 := hb1'.size
    obtain ⟨WF, hWF, bF, hwF, hsF⟩ := box2_fill (HBY.out u1 hb1') (.slice a' ts.length c') (.int .i64 s)
    have q0 := bF.cell 0 _ rfl
    have q1 := bF.cell 1 _ rfl
    have ho1' : OwnRs u1 W.heap.size u1.heap.size a' c' ts := ho1
    have hoF := (ho1'.within hwF (.inr (by omega))).widen (show w.heap.size ≤ W.heap.size by omega) (show u1.heap.size ≤ WF.heap.size by omega) (Nat.le_refl _)
    have hbF : Below w.heap.size w WF := (hbW.trans (hb1'.mono (by omega))).trans (hwF.below (by omega) (by omega))
    rw [hWF.out]
    clear hwF hsF bF ho1 ho1' z1 y0 y1 g0 g1
    go_wp2
    exact bodyPost_ret (v := .agg #[.slice a' ts.length c', .int .i64 s]) (by simp [results, Tryz.results32, go_sem, q0, q1]) rfl ⟨⟨ts, s, a', c'⟩, rfl, by simp only [Hid, LogA.v]; rw [hv1.out], hoF, hbF⟩
end Go.Proofs.YtoboickdkednkaaGreatDoor
