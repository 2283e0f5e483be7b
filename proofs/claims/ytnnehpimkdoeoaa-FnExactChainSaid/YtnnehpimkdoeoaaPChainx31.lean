/- Several texts in one, in their order. -/
import Derived.Test.YtnnehpimkdoeoaaPChainx30
import Derived.Deep.RegionHeld3
import Derived.Test.YtnnehpimkdoeoaaPChainx27
/- The walks of laws.toRecS, toLog, szRecS, szLog, eqRecS, eqLog. -/
namespace Go.Proofs.Ytnnehpimkdoeoaa
open Go.RowKit

theorem rep_len (n : Nat) (r : RecA) : (List.replicate n r).length = n := by simp
theorem zero_cellsRs (n : Nat) : (madeCells (Value.agg zeroR.cells.toArray).cells (n * 15)).toList = cellsRs (List.replicate n zeroR) := by
  apply List.ext_getElem?
  intro i
  by_cases h : i < n * 15
  · have e := cellsRs_at (List.replicate n zeroR) (i / 15) (i % 15) (by simp; omega) (Nat.mod_lt _ (by omega))
    rw [show i / 15 * 15 + i % 15 = i by omega] at e
    rw [e]
    have hg : (List.replicate n zeroR).getD (i / 15) zeroR = zeroR := by simp [List.getD, show i / 15 < n by omega]
    rw [hg]
    simp only [madeCells, Array.toList_map, List.getElem?_map, Array.toList_range, List.getElem?_range h, Option.map_some]
    have hm : i % 15 < 15 := Nat.mod_lt _ (by omega)
    have hz : ∀ j, j < 15 → some ((Value.agg zeroR.cells.toArray).cells[j]!) = zeroR.cells[j]? := by
      intro j hj
      rcases (by omega : j = 0 ∨ j = 1 ∨ j = 2 ∨ j = 3 ∨ j = 4 ∨ j = 5 ∨ j = 6 ∨ j = 7 ∨ j = 8 ∨ j = 9 ∨ j = 10 ∨ j = 11 ∨ j = 12 ∨ j = 13 ∨ j = 14) with rfl | rfl | rfl | rfl | rfl | rfl | rfl | rfl | rfl | rfl | rfl | rfl | rfl | rfl | rfl <;> rfl
    exact hz _ hm
  · rw [List.getElem?_eq_none (by simp [size_madeCells]; omega), List.getElem?_eq_none (by rw [cellsRs_len]; simp; omega)]
theorem own_zeroRs {w : World} {lo hi g c : Nat} (n : Nat) (h : w.ownsRow lo 44 15 (.slice (some ⟨g, 0, none⟩) n c) n (cellsRs (List.replicate n zeroR))) (ht : hi ≤ w.heap.size) (hg : g < hi) : OwnRs w lo hi (some ⟨g, 0, none⟩) c (List.replicate n zeroR) := by
  refine ⟨by rw [rep_len]; exact h, ht, fun k hk => by cases hk; exact hg, fun r hr => ?_, ?_⟩
  · rw [(List.mem_replicate.1 hr).2]
    exact own_zeroR w lo hi ht
  · have e : (List.replicate n zeroR).flatMap RecA.blocks = [] := by
      rw [List.flatMap_eq_nil_iff]
      intro r hr
      rw [(List.mem_replicate.1 hr).2]
      rfl
    rw [e]
    simp [Value.ownBlock]

/-- The first k of a row have come. -/
def Came (rs ts : List RecA) (k : Nat) : Prop := ts.length = k ∧ ts.map RecA.v = (rs.take k).map RecA.v
theorem came_none (rs : List RecA) : Came rs [] 0 := ⟨rfl, by simp⟩
theorem Came.snoc {rs ts : List RecA} {k : Nat} (h : Came rs ts k) (hk : k < rs.length) {q : RecA} (hq : q.v = (rs.getD k zeroR).v) : Came rs (ts ++ [q]) (k + 1) := by
  refine ⟨by simp [h.1], ?_⟩
  have e : rs.getD k zeroR = rs[k] := by simp [List.getD, hk]
  rw [List.map_append, h.2, List.take_succ_eq_append_getElem hk, List.map_append, List.map_singleton, List.map_singleton, hq, e]
theorem Came.all {rs ts : List RecA} (h : Came rs ts rs.length) : ts.map RecA.v = rs.map RecA.v := by
  have := h.2
  rwa [List.take_length] at this
theorem range_below {w w' : World} {b o : Nat} {r : RecA} (h : w.rangeAt b o r.cells) (hb : Below w.heap.size w w') : w'.rangeAt b o r.cells := rangeAt_below h hb (rangeR_lt h)

set_option maxHeartbeats 1000000 in
set_option maxRecDepth 100000 in
theorem toRecS_any (a : Option Addr) (cap : Nat) (rs : List RecA) (w : World) (hr : ReadsRs w a rs) (hl : rs.length ≤ 1048576) (hs : ∀ r ∈ rs, r.short 1048576) :
    Calls Try.prog 14 #[.slice a rs.length cap] w fun e w' => ∃ a' c' ts, e = .returned (.slice a' ts.length c') ∧ Hid (ts.map RecA.v = rs.map RecA.v) ∧ OwnRs w' w.heap.size w'.heap.size a' c' ts ∧ Below w.heap.size w w' := by
  obtain ⟨i0, hi, hz0, hz1, hz2⟩ := info_parts Try.infoRec
  have HI : Hid ((Try.prog.info? 57).map (·.size) = some 15) := by rw [Hid]; kernel_rfl
  have HJ : Hid ((Try.prog.info? 44).map (·.size) = some 15) := by rw [Hid]; kernel_rfl
  rcases hr.cases with rfl | ⟨b, off, rfl, hpos, hcell⟩
  · go_enter Try.func14, Try.ntmps14
    go_wp2_with (at_make; refine wpList_make_full _ rfl _ _ 28 rfl w.heap.size 44 i0 (.agg zeroR.cells.toArray) 15 Try.underlying28 hi hz0 hz1 _ _ _ _ 0 rfl rfl (by simp) (by simp) (by omega) (by simp [maxLen]) (Nat.le_refl _) ?_)
    intro w0 hown0 hgrow0
    have hB : Below w.heap.size w w0 := (Below.refl _ _).grown hgrow0 (Nat.le_refl _) (fun k h => by cases h)
    have ho : w0.ownsRow w.heap.size 44 15 (.slice (some ⟨w.heap.size, 0, none⟩) 0 0) 0 (cellsRs (List.replicate 0 zeroR)) := by
      rw [← zero_cellsRs]
      exact hown0
    have HO : Hid (OwnRs w0 w.heap.size w0.heap.size (some ⟨w.heap.size, 0, none⟩) 0 []) := own_zeroRs 0 ho (Nat.le_refl _) (ho.lt _ rfl).2
    clear hown0 hgrow0 ho
    go_wp2
    refine wp_loop_rounds 1 ?_
    rw [rounds_succ]
    go_wp2
    go_ret
    exact ⟨_, _, [], rfl, rfl, HO.out, hB⟩
  · have hbB : b < w.heap.size := rangeR_lt (hcell 0 hpos).1
    go_enter Try.func14, Try.ntmps14
    go_wp2_with (at_make; refine wpList_make_full _ rfl _ _ 28 rfl w.heap.size 44 i0 (.agg zeroR.cells.toArray) 15 Try.underlying28 hi hz0 hz1 _ _ _ _ rs.length rfl rfl rfl rfl (by rw [hz2]; omega) (by simp [maxLen]; omega) (Nat.le_refl _) ?_)
    intro w0 hown0 hgrow0
    have hb0 : Below w.heap.size w w0 := (Below.refl _ _).grown hgrow0 (Nat.le_refl _) (fun k h => by cases h)
    have ho : w0.ownsRow w.heap.size 44 15 (.slice (some ⟨w.heap.size, 0, none⟩) rs.length rs.length) rs.length (cellsRs (List.replicate rs.length zeroR)) := by
      rw [← zero_cellsRs]
      exact hown0
    have HO : Hid (OwnRs w0 w.heap.size w0.heap.size (some ⟨w.heap.size, 0, none⟩) rs.length (List.replicate rs.length zeroR)) := own_zeroRs _ ho (Nat.le_refl _) (ho.lt _ rfl).2
    clear hown0 hgrow0 ho
    go_wp2
    go_loopw [4] (fun i wr => ∃ (k : Nat) (ts : List RecA), k ≤ rs.length ∧ i = .int .i64 k ∧ Hid (Came rs ts k) ∧ Hid (OwnRs wr w.heap.size wr.heap.size (some ⟨w.heap.size, 0, none⟩) rs.length (ts ++ List.replicate (rs.length - k) zeroR)) ∧ Below w.heap.size w wr)
      (fun i _ => rs.length - (intOf i).toNat)
    case atStart => exact ⟨0, [], Nat.zero_le _, rfl, came_none rs, HO, hb0⟩
    case round =>
      obtain ⟨k, ts, hk, rfl, hc, hown, hnx⟩ := hrel
      by_cases hlt : k < rs.length
      · obtain ⟨c0, c1⟩ := hcell k hlt
        have HR : Hid (wr.rangeAt b (off + k * 15) (rs.getD k zeroR).cells) := rangeAt_below c0 hnx hbB
        have hrd : (rs.getD k zeroR).reads wr := c1.below hnx
        have hsh : (rs.getD k zeroR).short 1048576 := hs _ (recD_mem rs k hlt)
        have C := toRec_law (rs.getD k zeroR) wr hrd hsh
        have HS : Hid (∀ q : RecA, q.v = (rs.getD k zeroR).v → Came rs (ts ++ [q]) (k + 1)) := fun q hq => hc.out.snoc hlt hq
        have HP : Hid (ts ++ List.replicate (rs.length - k) zeroR = ts ++ zeroR :: List.replicate (rs.length - (k + 1)) zeroR ∧ (ts ++ zeroR :: List.replicate (rs.length - (k + 1)) zeroR).length = rs.length ∧ ts.length = k) := by
          have e : rs.length - k = (rs.length - (k + 1)) + 1 := by omega
          refine ⟨by rw [e, List.replicate_succ], ?_, hc.out.1⟩
          have := hc.out.1
          simp
          omega
        clear c0 c1 hcell hb0 HO hs hrd hsh
        generalize rs.getD k zeroR = z at *
        go_wp2_with (first | (guard_target = wpList _ _ _ (Oper.mk (some 19) _ _ _ _ _ :: _) _ _; refine wpList_load_mid rfl 57 (.tmp 18) rfl b (off + k * 15) rfl z.cells _ HR.out Try.underlying57 rfl HI.out ?_) | fail)
        refine C.mono ?_
        clear C HR
        rintro e w1 ⟨q, rfl, hq, hqo, hb1⟩
        have hs1 := hb1.size
        have ho1 := hown.out.below hb1
        rw [HP.out.1] at ho1
        obtain ⟨W2, hW2, ho2, ht2, hs2⟩ := ho1.fill q hqo (Nat.le_refl _) (by have := hnx.size; omega) (Nat.le_refl _)
        rw [HP.out.2.2] at hW2
        have HT : Hid (w1.there w.heap.size (k * 15) 15) := (row_rec ho1.row rfl k (by rw [HP.out.2.1]; exact hlt)).2
        have hB2 : Below w.heap.size w W2 := (hnx.trans (hb1.mono hnx.size)).trans ((ht2.within (lo := w.heap.size) (hi := w.heap.size + 1) (fun j hj => by obtain rfl := List.mem_singleton.1 hj; omega)).below (Nat.le_refl _) (by have := hnx.size; omega))
        have HH : Hid (OwnRs W2 w.heap.size W2.heap.size (some ⟨w.heap.size, 0, none⟩) rs.length ((ts ++ [q]) ++ List.replicate (rs.length - (k + 1)) zeroR)) := by
          have := ho2.widen (Nat.le_refl _) (show max wr.heap.size w1.heap.size ≤ W2.heap.size by omega) (Nat.le_refl _)
          rw [List.append_assoc, List.singleton_append]
          exact this
        have HB : Hid _ := hB2
        have HC := HS.out q hq.out
        have HO1 := rec_one q
        clear ho1 ho2 ht2 hs2 hB2 hqo hb1 hnx hown hq HS hs1
        go_wp2_with (first | (guard_target = wpList _ _ _ (Oper.mk none (Op.store _ (Operand.tmp 21) _) _ _ _ _ :: _) _ _; refine wpList_store_mid rfl 44 (.tmp 21) (.tmp 20) rfl w.heap.size (k * 15) q.cells.toArray rfl rfl HT.out HJ.out HO1 ?_) | fail)
        rw [hW2.out]
        go_roundw
        case rel => exact ⟨k + 1, ts ++ [q], by omega, by go_num, HC, HH, HB.out⟩
        case measure => simp [intOf]; omega
      · have HE : Hid (ts.map RecA.v = rs.map RecA.v ∧ OwnRs wr w.heap.size wr.heap.size (some ⟨w.heap.size, 0, none⟩) rs.length ts ∧ ts.length = rs.length) := by
          have e : k = rs.length := by omega
          rw [e] at hown hc
          rw [Nat.sub_self, List.replicate_zero, List.append_nil] at hown
          exact ⟨hc.out.all, hown.out, hc.out.1⟩
        go_wp2
        go_ret
        exact ⟨some ⟨w.heap.size, 0, none⟩, rs.length, ts, by rw [HE.out.2.2]; rfl, HE.out.1, HE.out.2.1, hnx⟩

theorem mapV_nil {ts : List RecA} (h : ts.map RecA.v = ([] : List RecA).map RecA.v) : ts = [] := by simpa using h
/-- The row of a log, handed back. -/
theorem log_cells (rs : List RecA) (s : Int) (a : Option Addr) (c : Nat) : (⟨rs, s, a, c⟩ : LogA).cells = [.slice a rs.length c, .int .i64 s] := rfl

set_option maxHeartbeats 1000000 in
set_option maxRecDepth 100000 in
theorem toLog_any (l : LogA) (w : World) (hr : l.reads w) (hl : l.short 1048576) :
    Calls Try.prog 6 #[.agg l.cells.toArray] w fun e w' => ∃ t : LogA, e = .returned (.agg t.cells.toArray) ∧ Hid (t.v = l.v) ∧ t.own w' w.heap.size w'.heap.size ∧ Below w.heap.size w w' := by
  obtain ⟨rs, s, a, c⟩ := l
  obtain ⟨hl1, hl2⟩ := hl
  simp only [LogA.reads, LogA.cells, LogA.own] at *
  obtain ⟨W, hW, b0, b1, b2, hbW, hsW⟩ := boxes3 w [.slice a rs.length c, .int .i64 s] [.slice none 0 0, .int .i64 0] [.slice none 0 0, .int .i64 0] 24 30 30
  have C := toRecS_any a c rs W (hr.below hbW) hl1 hl2
  go_enter Try.func6, Try.ntmps6
  go_wp2_with fail
  rw [hW.out]
  clear hW
  have hs0 : w.heap.size + 1 + 1 < W.heap.size := by omega
  clear hsW
  refine C.mono ?_
  clear C
  rintro e w1 ⟨a', c', ts, rfl, hv, ho1, hb1⟩
  have hs1 := hb1.size
  have b01 := b0.below hb1 b0.lt
  have b11 := b1.below hb1 b1.lt
  have b21 := b2.below hb1 b2.lt
  have x1 := b01.cell 1 _ rfl
  have y0 := b21.cell 0 _ rfl
  have y1 := b21.cell 1 _ rfl
  have f0 := b21.frozen 0
  have f1 := b21.frozen 1
  have z0 := b11.cell 0 _ rfl
  have z1 := b11.cell 1 _ rfl
  have g0 := b11.frozen 0
  have g1 := b11.frozen 1
  obtain ⟨W2, hW2, b22, hw2, hs2⟩ := box_set b21 0 (.slice a' ts.length c')
  obtain ⟨W3, hW3, b23, hw3, hs3⟩ := box_set b22 1 (.int .i64 s)
  have b13 := (b11.within hw2 (by omega)).within hw3 (by omega)
  obtain ⟨W4, hW4, b14, hw4, hs4⟩ := box_set b13 0 (.slice a' ts.length c')
  obtain ⟨W5, hW5, b15, hw5, hs5⟩ := box_set b14 1 (.int .i64 s)
  simp only [List.set] at b15
  have q0 := b15.cell 0 _ rfl
  have q1 := b15.cell 1 _ rfl
  have hB5 : Below w.heap.size w W5 := ((((hbW.trans (hb1.mono (by omega))).trans (hw2.below (by omega) (by omega))).trans (hw3.below (by omega) (by omega))).trans (hw4.below (by omega) (by omega))).trans (hw5.below (by omega) (by omega))
  have ho5 := ((((ho1.within hw2 (.inr (by omega))).within hw3 (.inr (by omega))).within hw4 (.inr (by omega))).within hw5 (.inr (by omega))).widen (show w.heap.size ≤ W.heap.size by omega) (show w1.heap.size ≤ W5.heap.size by omega) (Nat.le_refl _)
  have HH : Hid (_ ∧ _ ∧ _) := ⟨ho5, hB5, hv.out⟩
  clear ho5 hB5 hv ho1 hb1 hw2 hw3 hw4 hw5 hs2 hs3 hs4 hs5 b01 b11 b21 b22 b23 b13 b14 b15 b0 b1 b2 hbW
  have h34 : Hid (((((w1.setCell ⟨w.heap.size + 1 + 1, 0, none⟩ (.slice a' ts.length c')).setCell ⟨w.heap.size + 1 + 1, 1, none⟩ (.int .i64 s)).setCell ⟨w.heap.size + 1, 0, none⟩ (.slice a' ts.length c')).setCell ⟨w.heap.size + 1, 1, none⟩ (.int .i64 s)) = W5) := by rw [Hid, hW2.out, hW3.out, hW4.out, hW5.out]
  clear hW2 hW3 hW4 hW5
  go_wp2
  rw [h34.out]
  exact bodyPost_ret (v := .agg #[.slice a' ts.length c', .int .i64 s]) (by simp [results, Try.results6, go_sem, q0, q1]) rfl ⟨⟨ts, s, a', c'⟩, rfl, by simp only [Hid, LogA.v]; rw [HH.out.2.2], HH.out.1, HH.out.2.1⟩

set_option maxHeartbeats 1000000 in
set_option maxRecDepth 100000 in
theorem eqRecS_same (a b : Option Addr) (ca cb : Nat) (rs ts : List RecA) (he : ts.map RecA.v = rs.map RecA.v) (w : World) (ha : ReadsRs w a rs) (hb : ReadsRs w b ts) (hl : rs.length ≤ 1099511627776) (hs : ∀ r ∈ rs, r.short 1099511627776) :
    Calls Try.prog 16 #[.slice a rs.length ca, .slice b ts.length cb] w fun e w' => e = .returned (.bool true) ∧ Below w.heap.size w w' := by
  rcases ha.cases with rfl | ⟨b1, o1, rfl, hpos, hc1⟩
  · obtain rfl := mapV_nil he
    go_enter Try.func16, Try.ntmps16
    go_wp2
    refine wp_loop_rounds 1 ?_
    rw [rounds_succ]
    go_wp2
    go_ret
    exact ⟨rfl, Below.refl _ _⟩
  · have hlen := mapV_len he
    rcases hb.cases with rfl | ⟨b2, o2, rfl, _, hc2⟩
    · simp at hlen; omega
    · have HV : Hid (∀ k, k < rs.length → (ts.getD k zeroR).v = (rs.getD k zeroR).v) := fun k hk => mapV_at he k hk
      have HS : Hid (∀ k, k < rs.length → (rs.getD k zeroR).short 1099511627776) := fun k hk => hs _ (recD_mem rs k hk)
      have HI : Hid ((Try.prog.info? 44).map (·.size) = some 15) := by rw [Hid]; kernel_rfl
      have hu := Try.underlying44
      rw [hlen] at hc2 ⊢
      clear he hs hlen
      go_enter Try.func16, Try.ntmps16
      go_wp2
      go_loopw [5] (fun i wr => ∃ k : Nat, k ≤ rs.length ∧ i = .int .i64 k ∧ Below w.heap.size w wr) (fun i _ => rs.length - (intOf i).toNat)
      case atStart => exact ⟨0, Nat.zero_le _, rfl, Below.refl _ _⟩
      case round =>
        obtain ⟨k, hk, rfl, hbl⟩ := hrel
        by_cases hlt : k < rs.length
        · obtain ⟨h1, r1⟩ := hc1 k hlt
          obtain ⟨h2, r2⟩ := hc2 k hlt
          have hv := HV.out k hlt
          have hsh := HS.out k hlt
          clear hc1 hc2
          generalize rs.getD k zeroR = z at *
          generalize ts.getD k zeroR = y at *
          have HR : Hid (∀ w1, Below w.heap.size w w1 → w1.rangeAt b1 (o1 + k * 15) z.cells ∧ w1.rangeAt b2 (o2 + k * 15) y.cells) := fun w1 hh => ⟨range_below h1 hh, range_below h2 hh⟩
          have HD : Hid (∀ w1, Below w.heap.size w w1 → z.reads w1 ∧ y.reads w1) := fun w1 hh => ⟨r1.below hh, r2.below hh⟩
          clear h1 h2 r1 r2
          go_wp2_with fail
          refine wp_region_held_drew (S := fun w' => w'.rangeAt b1 (o1 + k * 15) z.cells ∧ w'.rangeAt b2 (o2 + k * 15) y.cells) (by kernel_rfl) ?_ (fun hHeld => ?_)
          · exact HR.out _ hbl.drew
          refine wpAnyH_take (i := 0) (v := .slice (some ⟨b1, o1, none⟩) rs.length ca) rfl (by kernel_rfl) (by kernel_rfl) (by kernel_rfl) (fun _ _ _ h => h) (Or.inl ⟨by rfl, ?_⟩) hHeld ?_
          · intro w' hSw
            go_simp <;> rfl
          try simp only [Act.put, List.getElem_toArray, List.getElem_cons_zero, List.setIfInBounds_toArray, List.set_cons_zero, List.set_cons_succ]
          refine wpAnyH_take (i := 1) (v := .int .i64 k) rfl (by kernel_rfl) (by kernel_rfl) (by kernel_rfl) (fun _ _ _ h => h) (Or.inl ⟨by rfl, ?_⟩) hHeld ?_
          · intro w' hSw
            go_simp <;> rfl
          try simp only [Act.put, List.getElem_toArray, List.getElem_cons_zero, List.getElem_cons_succ, List.setIfInBounds_toArray, List.set_cons_zero, List.set_cons_succ]
          refine wpAnyH_take (i := 2) (v := .pointer (some ⟨b1, o1 + k * 15, none⟩)) rfl (by kernel_rfl) (by kernel_rfl) (by kernel_rfl) (fun _ _ _ h => h) (Or.inl ⟨by rfl, ?_⟩) hHeld ?_
          · intro w' hSw
            go_simp <;> rfl
          try simp only [Act.put, List.getElem_toArray, List.getElem_cons_zero, List.getElem_cons_succ, List.setIfInBounds_toArray, List.set_cons_zero, List.set_cons_succ]
          refine wpAnyH_take (i := 3) rfl (by kernel_rfl) (by kernel_rfl) (by kernel_rfl) (fun _ _ _ h => h) (yieldsIf_load_mid (by rfl) _ _ rfl _ _ rfl z.cells _ (fun _ h => h.1) Try.underlying44 rfl HI.out) hHeld ?_
          try simp only [Act.put, List.getElem_toArray, List.getElem_cons_zero, List.getElem_cons_succ, List.setIfInBounds_toArray, List.set_cons_zero, List.set_cons_succ]
          refine wpAnyH_take (i := 4) (v := .slice (some ⟨b2, o2, none⟩) rs.length cb) rfl (by kernel_rfl) (by kernel_rfl) (by kernel_rfl) (fun _ _ _ h => h) (Or.inl ⟨by rfl, ?_⟩) hHeld ?_
          · intro w' hSw
            go_simp <;> rfl
          try simp only [Act.put, List.getElem_toArray, List.getElem_cons_zero, List.getElem_cons_succ, List.setIfInBounds_toArray, List.set_cons_zero, List.set_cons_succ]
          refine wpAnyH_take (i := 5) (v := .int .i64 k) rfl (by kernel_rfl) (by kernel_rfl) (by kernel_rfl) (fun _ _ _ h => h) (Or.inl ⟨by rfl, ?_⟩) hHeld ?_
          · intro w' hSw
            go_simp <;> rfl
          try simp only [Act.put, List.getElem_toArray, List.getElem_cons_zero, List.getElem_cons_succ, List.setIfInBounds_toArray, List.set_cons_zero, List.set_cons_succ]
          refine wpAnyH_take (i := 6) (v := .pointer (some ⟨b2, o2 + k * 15, none⟩)) rfl (by kernel_rfl) (by kernel_rfl) (by kernel_rfl) (fun _ _ _ h => h) (Or.inl ⟨by rfl, ?_⟩) hHeld ?_
          · intro w' hSw
            go_simp <;> rfl
          try simp only [Act.put, List.getElem_toArray, List.getElem_cons_zero, List.getElem_cons_succ, List.setIfInBounds_toArray, List.set_cons_zero, List.set_cons_succ]
          refine wpAnyH_take (i := 7) rfl (by kernel_rfl) (by kernel_rfl) (by kernel_rfl) (fun _ _ _ h => h) (yieldsIf_load_mid (by rfl) _ _ rfl _ _ rfl y.cells _ (fun _ h => h.2) Try.underlying44 rfl HI.out) hHeld ?_
          try simp only [Act.put, List.getElem_toArray, List.getElem_cons_zero, List.getElem_cons_succ, List.setIfInBounds_toArray, List.set_cons_zero, List.set_cons_succ]
          refine wpAnyH_ready (rs := [8]) (by kernel_rfl) (by simp) ?_
          refine AllReadyH.cons rfl (fun K hK => ?_) AllReadyH.nil
          go_simp
          refine (eqRec_same z y hv _ (HD.out _ hbl.drew).1 (HD.out _ hbl.drew).2 hsh).mono ?_
          rintro e w2 ⟨rfl, hb2⟩
          have hw2 : Below w.heap.size w w2 := (hbl.drew).trans (hb2.mono hbl.size)
          refine hK.out _ _ (HR.out _ hw2) (fun hHeld => ?_)
          clear hK K
          try simp only [Act.put, List.getElem_toArray, List.getElem_cons_zero, List.getElem_cons_succ, List.setIfInBounds_toArray, List.set_cons_zero, List.set_cons_succ]
          refine wpAnyH_take (i := 9) (v := .bool false) rfl (by kernel_rfl) (by kernel_rfl) (by kernel_rfl) (fun _ _ _ h => h) (Or.inl ⟨by rfl, ?_⟩) hHeld ?_
          · intro w' hSw
            go_simp <;> rfl
          try simp only [Act.put, List.getElem_toArray, List.getElem_cons_zero, List.getElem_cons_succ, List.setIfInBounds_toArray, List.set_cons_zero, List.set_cons_succ]
          refine wpAnyH_done (by kernel_rfl) ?_ _
          go_wp2_with fail
          go_roundw
          case rel => exact ⟨k + 1, by omega, by go_num, hw2⟩
          case measure => simp [intOf]; omega
        · go_wp2
          go_ret
          exact ⟨rfl, hbl⟩

set_option maxHeartbeats 1000000 in
set_option maxRecDepth 100000 in
theorem eqLog_same (l t : LogA) (he : t.v = l.v) (w : World) (hr : l.reads w) (ht : t.reads w) (hl : l.short 1099511627776) :
    Calls Try.prog 9 #[.agg l.cells.toArray, .agg t.cells.toArray] w fun e w' => e = .returned (.bool true) ∧ Below w.heap.size w w' := by
  obtain ⟨rs, s, a, c⟩ := l
  obtain ⟨ts, s', a', c'⟩ := t
  obtain ⟨hl1, hl2⟩ := hl
  simp only [LogA.v, LogV.mk.injEq] at he
  obtain ⟨he, rfl⟩ := he
  simp only [LogA.reads, LogA.cells] at *
  obtain ⟨W, hW, b0, b1, hbW, hsW⟩ := boxes2 w [.slice a rs.length c, .int .i64 s'] [.slice a' ts.length c', .int .i64 s'] 30 30
  have C := eqRecS_same a a' c c' rs ts he W (hr.below hbW) (ht.below hbW) hl1 hl2
  clear hsW he hl1 hl2 hr ht
  go_enter Try.func9, Try.ntmps9
  go_wp2_with fail
  rw [hW.out]
  clear hW
  refine C.mono ?_
  clear C
  rintro e w1 ⟨rfl, hb1⟩
  have x1 := (b0.below hb1 b0.lt).cell 1 _ rfl
  have y1 := (b1.below hb1 b1.lt).cell 1 _ rfl
  clear b0 b1
  go_wp2
  go_ret
  exact ⟨rfl, hbW.trans (hb1.mono hbW.size)⟩

set_option maxHeartbeats 1000000 in
set_option maxRecDepth 100000 in
theorem szRecS_any (a : Option Addr) (cap : Nat) (rs : List RecA) (left : Int) (w : World) (hr : ReadsRs w a rs) (hn : rs.length ≤ 9223372036854775807) (hs : ∀ r ∈ rs, r.short 9223372036854775807) (hl : 0 ≤ left ∧ left ≤ 1048576) :
    Calls Try.prog 13 #[.slice a rs.length cap, .int .i64 left] w fun e w' => ∃ z : Int, e = .returned (.int .i64 z) ∧ (z < 0 ∨ (0 ≤ z ∧ z ≤ left ∧ rs.length ≤ 1048576 ∧ ∀ r ∈ rs, r.short 1048576)) ∧ Below w.heap.size w w' := by
  have HI : Hid ((Try.prog.info? 57).map (·.size) = some 15) := by rw [Hid]; kernel_rfl
  by_cases hle : left - rs.length < 0
  · go_enter Try.func13, Try.ntmps13
    go_wp2
    go_ret
    exact ⟨-1, rfl, .inl (by omega), Below.refl _ _⟩
  have HS : Hid (∀ k, k < rs.length → (rs.getD k zeroR).short 9223372036854775807) := fun k hk => hs _ (recD_mem rs k hk)
  have hlen : rs.length ≤ 1048576 := by omega
  have HC : Hid (∀ k, k < rs.length → ∃ b off, a = some ⟨b, off, none⟩ ∧ w.rangeAt b (off + k * 15) (rs.getD k zeroR).cells) := fun k hk => by
    obtain ⟨b, off, ha, hc⟩ := hr (by intro e; rw [e] at hk; simp at hk)
    exact ⟨b, off, ha, (hc k hk).1⟩
  have HA : Hid ((∀ k, k < rs.length → (rs.getD k zeroR).short 1048576) → ∀ r ∈ rs, r.short 1048576) := by
    intro h r hr
    obtain ⟨k, hk, rfl⟩ := List.getElem_of_mem hr
    have := h k hk
    simpa [List.getD, hk] using this
  clear hr hs
  go_enter Try.func13, Try.ntmps13
  go_wp2
  go_loopw [1, 5] (fun v i wr => ∃ (k : Nat) (z : Int), k ≤ rs.length ∧ i = .int .i64 k ∧ v = .int .i64 z ∧ 0 ≤ z ∧ z ≤ left ∧ Hid (∀ j, j < k → (rs.getD j zeroR).short 1048576) ∧ Below w.heap.size w wr) (fun _ i _ => rs.length - (intOf i).toNat)
  case atStart => exact ⟨0, left - rs.length, Nat.zero_le _, rfl, by go_num, by omega, by omega, fun j hj => by omega, Below.refl _ _⟩
  case round =>
    obtain ⟨k, z, hk, rfl, rfl, hz0, hz1, hsh, hbl⟩ := hrel
    by_cases hlt : k < rs.length
    · obtain ⟨b, off, rfl, hcell⟩ := HC.out k hlt
      have HR : Hid (wr.rangeAt b (off + k * 15) (rs.getD k zeroR).cells) := range_below hcell hbl
      have C := szRec_any (rs.getD k zeroR) z wr (HS.out k hlt) (by omega)
      clear hcell HC
      have HN : Hid ((rs.getD k zeroR).short 1048576 → ∀ j, j < k + 1 → (rs.getD j zeroR).short 1048576) := fun h j hj => by
        by_cases e : j = k
        · rw [e]; exact h
        · exact hsh.out j (by omega)
      generalize rs.getD k zeroR = y at *
      go_wp2_with (first | (guard_target = wpList _ _ _ (Oper.mk (some 21) _ _ _ _ _ :: _) _ _; refine wpList_load_mid rfl 57 (.tmp 20) rfl b (off + k * 15) rfl y.cells _ HR.out Try.underlying57 rfl HI.out ?_) | fail)
      refine C.mono ?_
      clear C HR
      rintro e w1 ⟨z1, rfl, hz, hb1⟩
      have hB1 : Below w.heap.size w w1 := hbl.trans (hb1.mono hbl.size)
      rcases hz with hneg | ⟨g0, g1, g2⟩
      · go_wp2
        go_ret
        exact ⟨-1, rfl, .inl (by omega), hB1⟩
      · have hzn : ¬ z1 < 0 := by omega
        have HH := HN.out g2
        go_wp2
        go_roundw
        case rel => exact ⟨k + 1, z1, by omega, by go_num, rfl, g0, by omega, HH, hB1⟩
        case measure => simp [intOf]; omega
    · have HE : Hid (∀ r ∈ rs, r.short 1048576) := HA.out (fun j hj => hsh.out j (by omega))
      go_wp2
      go_ret
      exact ⟨z, rfl, .inr ⟨hz0, hz1, hlen, HE.out⟩, hbl⟩

set_option maxHeartbeats 1000000 in
set_option maxRecDepth 100000 in
theorem szLog_any (l : LogA) (left : Int) (w : World) (hr : l.reads w) (hs : l.short 9223372036854775807) (hl : 0 ≤ left ∧ left ≤ 1048576) :
    Calls Try.prog 4 #[.agg l.cells.toArray, .int .i64 left] w fun e w' => ∃ z : Int, e = .returned (.int .i64 z) ∧ (z < 0 ∨ (0 ≤ z ∧ z ≤ left ∧ l.short 1048576)) ∧ Below w.heap.size w w' := by
  obtain ⟨rs, s, a, c⟩ := l
  obtain ⟨hl1, hl2⟩ := hs
  simp only [LogA.reads, LogA.cells] at *
  obtain ⟨W, hW, b0, hbW, hsW⟩ := boxes1 w [.slice a rs.length c, .int .i64 s] 24
  have C := szRecS_any a c rs left W (hr.below hbW) hl1 hl2 hl
  clear hsW hr hl1 hl2
  go_enter Try.func4, Try.ntmps4
  go_wp2_with fail
  rw [hW.out]
  clear hW
  refine C.mono ?_
  clear C
  rintro e w1 ⟨z, rfl, hz, hb1⟩
  have hB : Below w.heap.size w w1 := hbW.trans (hb1.mono hbW.size)
  rcases hz with hneg | ⟨h0, h1, h2, h3⟩
  · go_wp2
    go_ret
    exact ⟨-1, rfl, .inl (by omega), hB⟩
  · have hzn : ¬ z < 0 := by omega
    go_wp2
    go_ret
    exact ⟨z, rfl, .inr ⟨h0, h1, h2, h3⟩, hB⟩
end Go.Proofs.Ytnnehpimkdoeoaa

/- What came in, read: a log. -/
namespace Go.Proofs.Ytnnehpimkdoeoaa
open Go.ChangeShapes Go.WideShapes Go.ChangeAt Go.RowKit

/-- A log as it came in. -/
structure InLog (w : World) (l : LogA) : Prop where
  recs : ReadsRs w l.a l.recs
  each : ∀ r ∈ l.recs, InRec w r
  len : l.recs.length ≤ maxLen
  num : InI64 l.sure
theorem InLog.short {w : World} {l : LogA} (h : InLog w l) : l.short 9223372036854775807 := ⟨by have := h.len; simp only [maxLen] at this; omega, fun r hr => (h.each r hr).short⟩

section
variable {H : Type} {enc : TypeId × Value → H} {w : World} {base : Nat} {spare : Nat → Bool} {held : Bool}

theorem Try.cellsRcs : Try.prog.cellsOf 22 = 1 := by kernel_rfl
theorem Try.cellsLg : Try.prog.cellsOf 24 = 2 := by kernel_rfl

set_option maxRecDepth 100000 in
theorem trod_recs {fuel : Nat} {cs : List Value} {x : DataW H × List MemPlace} (h : DataW.trod enc Try.prog w base spare held fuel 22 cs = some x) :
    ∃ (a : Option Addr) (c : Nat) (rs : List RecA), cs = [.slice a rs.length c] ∧ ReadsRs w a rs ∧ (∀ r ∈ rs, InRec w r) ∧ rs.length ≤ maxLen := by
  rcases DataW.trod_slice Try.underlying22 h with ⟨rfl, _⟩ | ⟨a, len, cap, elems, rest, n, _, rfl, _, _, hl, hm, hlen, hel, _, _⟩
  · exact ⟨none, 0, [], rfl, ReadsRs.nil _ _, fun r hr => by simp at hr, by simp⟩
  rw [Try.cellsRc] at hel
  have each : ∀ i, i < len → ∃ t : RecA, w.cells? base (a.add (i * 15)) 15 = some t.cells ∧ InRec w t := by
    intro i hi
    have hy := hel i hi
    rw [List.getElem?_eq_getElem (by omega : i < elems.length), Option.bind_eq_some_iff] at hy
    obtain ⟨cs', hcs, hy'⟩ := hy
    obtain ⟨t, e, ht⟩ := trod_rec hy'
    exact ⟨t, by rw [hcs, e], ht⟩
  obtain ⟨f, hf⟩ : ∃ f : Nat → RecA, ∀ i, i < len → w.cells? base (a.add (i * 15)) 15 = some (f i).cells ∧ InRec w (f i) := by
    refine ⟨fun i => if h : i < len then (each i h).choose else zeroR, fun i hi => ?_⟩
    simp only [dif_pos hi]
    exact (each i hi).choose_spec
  refine ⟨some a, cap, (List.range len).map f, by simp, ?_, ?_, by simp; omega⟩
  · intro hne
    have hpos := List.length_pos_iff.2 hne
    simp only [List.length_map, List.length_range] at hpos ⊢
    obtain ⟨b, off, spot⟩ := a
    have c0 := (World.cells?_some (hf 0 hpos).1).2.2 0 (by decide)
    have hspot : spot = none := by simpa [Addr.add] using World.cell?_spot c0
    subst hspot
    refine ⟨b, off, rfl, fun k hk => ?_⟩
    have e : ((List.range len).map f).getD k zeroR = f k := by simp [List.getD, hk]
    rw [e]
    have hc := (World.cells?_some (hf k hk).1).2.2
    refine ⟨fun j v hv => ?_, (hf k hk).2.reads⟩
    have hj : j < 15 := by have := (List.getElem?_eq_some_iff.1 hv).1; rwa [cellsR_len] at this
    have d := hc j (by simpa using hj)
    simp only [Addr_add] at d
    rw [d, hv]
  · intro r hr
    obtain ⟨k, hk, rfl⟩ := List.mem_map.1 hr
    exact (hf k (List.mem_range.1 hk)).2

set_option maxRecDepth 100000 in
theorem trod_log {fuel : Nat} {cs : List Value} {x : DataW H × List MemPlace} (h : DataW.trod enc Try.prog w base spare held fuel 24 cs = some x) :
    ∃ l : LogA, cs = l.cells ∧ InLog w l := by
  obtain ⟨xs, n, _, _, hlen, hxl, hf⟩ := DataW.trod_struct Try.underlying24 h
  rw [Try.cellsLg] at hlen
  match cs, hlen with
  | [v0, v1], _ =>
    have f0 := hf 0 _ rfl
    have f1 := hf 1 _ rfl
    obtain ⟨y0, hx0⟩ := some_at xs 0 (by rw [hxl]; decide)
    rw [hx0] at f0
    obtain ⟨y1, hx1⟩ := some_at xs 1 (by rw [hxl]; decide)
    rw [hx1] at f1
    simp only [List.getElem_toArray, List.getElem_cons_zero, List.getElem_cons_succ, Try.cellsI, Try.cellsRcs, List.drop, List.take] at f0 f1
    obtain ⟨a, c, rs, e0, h0, h1, h2⟩ := trod_recs f0
    obtain ⟨m, e1, w1⟩ := trod_num f1
    simp only [List.cons.injEq, and_true] at e0 e1
    subst e0 e1
    exact ⟨⟨rs, m, a, c⟩, rfl, h0, h1, h2, w1⟩

set_option maxRecDepth 100000 in
/-- A log that came in as an argument. -/
theorem open_log {b0 : Nat} {v : Value} {d : DataW H} {ps : List MemPlace} (hval : Value.okWide Try.prog w .any b0 24 v) (h : DataW.Trod enc Try.prog w base spare held 24 v d ps) :
    ∃ l : LogA, v = .agg l.cells.toArray ∧ InLog w l := by
  obtain ⟨cs, rfl, hcs⟩ := okWide_struct Try.underlying24 hval
  obtain ⟨fuel, hf⟩ := h
  have e : (Value.agg cs).cells.toList = cs.toList := rfl
  rw [e] at hf
  obtain ⟨r, hc, rest⟩ := trod_log hf
  refine ⟨r, ?_, rest⟩
  congr 1
  apply Array.toList_inj.1
  rw [hc]
end
end Go.Proofs.Ytnnehpimkdoeoaa

/- What the laws of logs share. -/
namespace Go.Proofs.Ytnnehpimkdoeoaa
open Go.RowKit

def zeroLog : LogA := ⟨[], 0, none, 0⟩
theorem LogA.reads.below {w w' : World} {l : LogA} (h : l.reads w) (hb : Below w.heap.size w w') : l.reads w' := ReadsRs.below h hb
theorem LogA.own.reads {w : World} {lo hi : Nat} {l : LogA} (h : l.own w lo hi) : l.reads w := OwnRs.reads h
theorem LogA.own.below {w w' : World} {lo hi : Nat} {l : LogA} (h : l.own w lo hi) (hb : Below w.heap.size w w') : l.own w' lo hi := OwnRs.below h hb
theorem LogA.own.within {w w' : World} {lo hi a b : Nat} {l : LogA} (h : l.own w lo hi) (hw : Within a b w w') (hd : hi ≤ a ∨ b ≤ lo) : l.own w' lo hi := OwnRs.within h hw hd
theorem LogA.own.widen {w : World} {lo hi lo' hi' : Nat} {l : LogA} (h : l.own w lo hi) (h1 : lo' ≤ lo) (h2 : hi ≤ hi') (h3 : hi' ≤ w.heap.size) : l.own w lo' hi' := OwnRs.widen h h1 h2 h3
def LogA.blocks (l : LogA) : List Nat := blocksRs l.a l.c l.recs
theorem LogA.own.blocks_lt {w : World} {lo hi : Nat} {l : LogA} (h : l.own w lo hi) : ∀ k ∈ l.blocks, lo ≤ k ∧ k < hi := OwnRs.blocks_lt h
theorem LogA.own.touch {w w' : World} {lo hi : Nat} {l : LogA} {bl : List Nat} (h : l.own w lo hi) (ht : Touch bl w w') (hd : ∀ k ∈ l.blocks, k ∉ bl) : l.own w' lo hi := OwnRs.touch h ht hd
theorem oneLog (l : LogA) : ∀ v ∈ l.cells, v.oneCell' = true := by
  intro v hv
  simp only [LogA.cells, List.mem_cons, List.not_mem_nil, or_false] at hv
  rcases hv with rfl | rfl <;> rfl
theorem InLog.reads {w : World} {l : LogA} (h : InLog w l) : l.reads w := h.recs
theorem log_one (q : LogA) : q.cells.toArray.all (·.oneCell') = true := all_oneCell_toArray (oneLog q)
theorem log_info (q : LogA) : (Try.prog.info? 30).map (·.size) = some q.cells.length := by show _ = some 2; kernel_rfl
theorem log_load {w : World} {C : Nat} (q : LogA) (b : Box w C q.cells 30) : (loadVar 30 ⟨C, 0, none⟩).run Try.prog w = .ok (.agg q.cells.toArray) w :=
  run_loadVar_mid (P := Try.prog) w C 0 30 q.cells _ (Box.range [] q.cells [] (by simpa using b)) Try.underlying30 rfl (log_info q)
theorem log_out {w : World} {C : Nat} (q : LogA) (old : List Value) (ho : old.length = 2) (bC : Box w C old 30) :
    ∃ WF, Hid (w.setCells C 0 q.cells = WF) ∧ Within C (C + 1) w WF ∧ WF.heap.size = w.heap.size ∧ Hid (w.there C 0 q.cells.toArray.size) ∧ Hid ((loadVar 30 ⟨C, 0, none⟩).run Try.prog WF = .ok (.agg q.cells.toArray) WF) ∧ Box WF C q.cells 30 := by
  obtain ⟨WF, hWF, bF, hwF, hsF⟩ := range_fill [] old q.cells [] (by simpa using bC) (by rw [ho]; rfl)
  have bF' : Box WF C q.cells 30 := by simpa using bF
  exact ⟨WF, hWF, hwF, hsF, bC.there 0 _ (by rw [ho]; show 0 + 2 ≤ 2; decide), log_load q bF', bF'⟩
theorem box2_fill {w : World} {B : Nat} {x0 x1 : Value} {t : TypeId} (b : Box w B [x0, x1] t) (v0 v1 : Value) :
    ∃ W, Hid ((w.setCell ⟨B, 0, none⟩ v0).setCell ⟨B, 1, none⟩ v1 = W) ∧ Box W B [v0, v1] t ∧ Within B (B + 1) w W ∧ W.heap.size = w.heap.size := by
  refine ⟨_, rfl, by simpa using (b.set 0 v0).set 1 v1, (within_set w B 0 v0 (by omega)).trans (within_set _ B 1 v1 (by omega)), by simp⟩
end Go.Proofs.Ytnnehpimkdoeoaa
