/- Several texts in one, in their order. -/
import Derived.Test.YtbpdocjkhmiimabGreatDoorPTearx25
import Derived.Test.YtbpdocjkhmiimabGreatDoorPTearx26
import Derived.Deep.RegionLaw
import Derived.Deep.DrawnRows
import Derived.Test.YtbpdocjkhmiimabGreatDoorPTearx18
import Derived.Test.YtbpdocjkhmiimabGreatDoorPTearx17
import Derived.Test.YtbpdocjkhmiimabGreatDoorPTearx9
import Derived.Test.YtbpdocjkhmiimabGreatDoorPTearx13
/- The walks of impl.copyRecs and impl.copyLog. -/
namespace Go.Proofs.YtbpdocjkhmiimabGreatDoor
open Go.RowKit

set_option maxHeartbeats 2000000 in
set_option maxRecDepth 100000 in
theorem copyRecs_any (a : Option Addr) (cap : Nat) (rs : List RecA) (w : World) (hr : ReadsRs w a rs) (hl : rs.length ≤ 1048576) (hs : ∀ r ∈ rs, r.short 1099511627776) (hcp : ∀ r ∈ rs, r.aL = none → r.cL = 0) :
    Calls Tryz.prog 28 #[.slice a rs.length cap] w fun e w' => ∃ a' c' ts, e = .returned (.slice a' ts.length c') ∧ Hid (ts.map RecA.v = rs.map RecA.v) ∧ OwnRs w' w.heap.size w'.heap.size a' c' ts ∧ Below w.heap.size w w' := by
  obtain ⟨i0, hi, hz0, hz1, hz2⟩ := info_parts Tryz.infoRec
  have HJ : Hid ((Tryz.prog.info? 59).map (·.size) = some 15) := by rw [Hid]; kernel_rfl
  rcases hr.cases with rfl | ⟨b, off, rfl, hpos, hcell⟩
  · have HO : Hid (OwnRs w w.heap.size w.heap.size none 0 []) := ownRs_nil w _ _ (Nat.le_refl _)
    go_enter Tryz.func28, Tryz.ntmps28
    go_wp2
    go_ret
    exact ⟨none, 0, [], rfl, rfl, HO.out, Below.refl _ _⟩
  · have hbB : b < w.heap.size := rangeR_lt (hcell 0 hpos).1
    have hne : ((rs.length : Int) == 0) = false := by simp; intro h; rw [h] at hpos; simp at hpos
    go_enter Tryz.func28, Tryz.ntmps28
    go_wp2_with (at_make; refine wpList_make_full _ rfl _ _ 26 rfl w.heap.size 59 i0 (.agg zeroR.cells.toArray) 15 Tryz.underlying26 hi hz0 hz1 _ _ _ _ rs.length rfl rfl rfl rfl (by rw [hz2]; omega) (by simp [maxLen]; omega) (Nat.le_refl _) ?_)
    intro w0 hown0 hgrow0
    have hb0 : Below w.heap.size w w0 := (Below.refl _ _).grown hgrow0 (Nat.le_refl _) (fun k h => by cases h)
    have ho : w0.ownsRow w.heap.size 59 15 (.slice (some ⟨w.heap.size, 0, none⟩) rs.length rs.length) rs.length (cellsRs (List.replicate rs.length zeroR)) := by
      rw [← zero_cellsRs]
      exact hown0
    have HO : Hid (OwnRs w0 w.heap.size w0.heap.size (some ⟨w.heap.size, 0, none⟩) rs.length (List.replicate rs.length zeroR)) := own_zeroRs _ ho (Nat.le_refl _) (ho.lt _ rfl).2
    clear hown0 hgrow0 ho
    go_wp2
    go_loopw [14] (fun i wr => ∃ (k : Nat) (ts : List RecA), k ≤ rs.length ∧ i = .int .i64 k ∧ Hid (Came rs ts k) ∧ Hid (OwnRs wr w.heap.size wr.heap.size (some ⟨w.heap.size, 0, none⟩) rs.length (ts ++ List.replicate (rs.length - k) zeroR)) ∧ Below w.heap.size w wr)
      (fun i _ => rs.length - (intOf i).toNat)
    case atStart => exact ⟨0, [], Nat.zero_le _, rfl, came_none rs, HO, hb0⟩
    case round =>
      obtain ⟨k, ts, hk, rfl, hc, hown, hnx⟩ := hrel
      by_cases hlt : k < rs.length
      · obtain ⟨c0, c1⟩ := hcell k hlt
        have HR : Hid (wr.rangeAt b (off + k * 15) (rs.getD k zeroR).cells) := rangeAt_below c0 hnx hbB
        have hrd : (rs.getD k zeroR).reads wr := c1.below hnx
        have hsh : (rs.getD k zeroR).short 1099511627776 := hs _ (recD_mem rs k hlt)
        have hnc := hcp _ (recD_mem rs k hlt)
        have HS : Hid (∀ q : RecA, q.v = (rs.getD k zeroR).v → Came rs (ts ++ [q]) (k + 1)) := fun q hq => hc.out.snoc hlt hq
        have HP : Hid (ts ++ List.replicate (rs.length - k) zeroR = ts ++ zeroR :: List.replicate (rs.length - (k + 1)) zeroR ∧ (ts ++ zeroR :: List.replicate (rs.length - (k + 1)) zeroR).length = rs.length ∧ ts.length = k) := by
          have e : rs.length - k = (rs.length - (k + 1)) + 1 := by omega
          refine ⟨by rw [e, List.replicate_succ], ?_, hc.out.1⟩
          have := hc.out.1
          simp
          omega
        clear c0 c1 hcell hb0 HO hs hcp
        generalize rs.getD k zeroR = z at *
        obtain ⟨W1, hW1, b1, hb1, hs1⟩ := boxes1 wr [.int .i64 0, .int .i64 0, .int .i64 0, .int .i64 0, .int .i64 0, .bool false, .int .i64 0, .slice none 0 0, .slice none 0 0, .bool false, .int .i64 0, .slice none 0 0, .slice none 0 0, .int .i64 0, .slice none 0 0] 59
        obtain ⟨W2, hW2, hw2, hs2, HT2, _, b2⟩ := rec_out z _ rfl b1
        have B2 : Below wr.heap.size wr W2 := hb1.trans (hw2.below (Nat.le_refl _) (by omega))
        have R2 : Hid (W2.rangeAt wr.heap.size 0 z.cells) := Box.range [] z.cells [] (by simpa using b2)
        have C := copyRec_own z W2 (hrd.below B2) hsh hnc
        have N2 : Below w.heap.size w W2 := hnx.trans (B2.mono hnx.size)
        have O2 : Hid _ := hown.out.below B2
        have hOz := rec_one z
        have hsw2 := B2.size
        have hszw := hnx.size
        clear hs1 hs2 b1 b2 hb1 hw2 hrd hsh hnc hown hnx B2
        go_wp2_with (first | (guard_target = wpList _ _ _ (Oper.mk (some 18) _ _ _ _ _ :: _) _ _; refine wpList_load_mid rfl 59 (.tmp 17) rfl b (off + k * 15) rfl z.cells _ HR.out Tryz.underlying59 rfl HJ.out ?_) | (guard_target = wpList _ _ _ (Oper.mk none (Op.store _ (Operand.tmp 5) _) _ _ _ _ :: _) _ _; refine wpList_store_mid rfl 59 (.tmp 5) (.tmp 18) rfl wr.heap.size 0 z.cells.toArray rfl rfl (by rw [hW1.out]; exact HT2.out) HJ.out hOz ?_) | (guard_target = wpList _ _ _ (Oper.mk (some 21) _ _ _ _ _ :: _) _ _; refine wpList_load_mid rfl 59 (.tmp 5) rfl wr.heap.size 0 rfl z.cells _ (by rw [hW1.out, hW2.out]; exact R2.out) Tryz.underlying59 rfl HJ.out ?_) | fail)
        rw [hW1.out, hW2.out]
        refine C.mono ?_
        clear C HR hW1 hW2 HT2 R2 hOz
        rintro e w3 ⟨q, rfl, hq, hqo, hb3⟩
        have hs3 := hb3.size
        have ho1 := O2.out.below hb3
        rw [HP.out.1] at ho1
        obtain ⟨W4, hW4, ho4, ht4, hs4⟩ := ho1.fill q hqo (by omega) (by omega) (Nat.le_refl _)
        rw [HP.out.2.2] at hW4
        have HT : Hid (w3.there w.heap.size (k * 15) 15) := (row_rec ho1.row rfl k (by rw [HP.out.2.1]; exact hlt)).2
        have hB4 : Below w.heap.size w W4 := (N2.trans (hb3.mono (by omega))).trans ((ht4.within (lo := w.heap.size) (hi := w.heap.size + 1) (fun j hj => by obtain rfl := List.mem_singleton.1 hj; omega)).below (Nat.le_refl _) (by omega))
        have HH : Hid (OwnRs W4 w.heap.size W4.heap.size (some ⟨w.heap.size, 0, none⟩) rs.length ((ts ++ [q]) ++ List.replicate (rs.length - (k + 1)) zeroR)) := by
          have := ho4.widen (Nat.le_refl _) (show max wr.heap.size w3.heap.size ≤ W4.heap.size by omega) (Nat.le_refl _)
          rw [List.append_assoc, List.singleton_append]
          exact this
        have HB : Hid _ := hB4
        have HC := HS.out q hq.out
        have HO1 := rec_one q
        clear ho1 ho4 ht4 hs4 hB4 hqo hb3 N2 O2 hq HS hs3 hsw2 hszw
        go_wp2_with (first | (guard_target = wpList _ _ _ (Oper.mk none (Op.store _ (Operand.tmp 23) _) _ _ _ _ :: _) _ _; refine wpList_store_mid rfl 59 (.tmp 23) (.tmp 22) rfl w.heap.size (k * 15) q.cells.toArray rfl rfl HT.out HJ.out HO1 ?_) | fail)
        rw [hW4.out]
        go_roundw
        case rel => exact ⟨k + 1, ts ++ [q], by omega, by go_num, HC, HH, HB.out⟩
        case measure => simp [intOf]; omega
      · have HE : Hid (ts.map RecA.v = rs.map RecA.v ∧ OwnRs wr w.heap.size wr.heap.size (some ⟨w.heap.size, 0, none⟩) rs.length ts ∧ ts.length = rs.length) := by
          have e : k = rs.length := by omega
          rw [e] at hown hc
          rw [Nat.sub_self, List.replicate_zero, List.append_nil] at hown
          exact ⟨hc.out.all, hown.out, hc.out.1⟩
        go_wp2
        go_ret
        exact ⟨some ⟨w.heap.size, 0, none⟩, rs.length, ts, by rw [HE.out.2.2]; rfl, HE.out.1, HE.out.2.1, hnx⟩

theorem OwnRs.caps {w : World} {lo hi : Nat} {a : Option Addr} {c : Nat} {rs : List RecA} (h : OwnRs w lo hi a c rs) : ∀ r ∈ rs, r.aL = none → r.cL = 0 := fun r hr => (h.each r hr).txs.nocap

set_option maxHeartbeats 2000000 in
set_option maxRecDepth 100000 in
theorem copyLog_any (l : LogA) (w : World) (hr : l.reads w) (hl : l.short 1048576) (hcp : ∀ r ∈ l.recs, r.aL = none → r.cL = 0) :
    Calls Tryz.prog 26 #[.agg l.cells.toArray] w fun e w' => ∃ t : LogA, e = .returned (.agg t.cells.toArray) ∧ Hid (t.v = l.v) ∧ t.own w' w.heap.size w'.heap.size ∧ Below w.heap.size w w' := by
  obtain ⟨rs, s, a, c⟩ := l
  obtain ⟨hl1, hl2⟩ := LogA.short_wide hl
  have hl0 := hl.len
  simp only [LogA.reads, LogA.cells, LogA.own] at *
  obtain ⟨W, hW, b0, b1, hbW, hsW⟩ := boxes2 w [.slice a rs.length c, .int .i64 s] [.slice none 0 0, .int .i64 0] 28 28
  have hs0 : w.heap.size + 1 < W.heap.size := by omega
  clear hsW
  have HC : Hid (∀ u, Below W.heap.size W u → Calls _ _ _ _ _) := fun u hu => copyRecs_any a c rs u (hr.below (hbW.trans (hu.mono (by omega)))) hl0 hl2 hcp
  have HBX : Hid (∀ u, Below W.heap.size W u → Box u w.heap.size _ _) := fun u hu => b0.below hu b0.lt
  have HBY : Hid (∀ u, Below W.heap.size W u → Box u (w.heap.size + 1) _ _) := fun u hu => b1.below hu b1.lt
  have x0 := b0.cell 0 _ rfl
  have x1 := b0.cell 1 _ rfl
  clear b0 b1 hr hl hl0 hl1 hl2 hcp
  go_enter Tryz.func26, Tryz.ntmps26
  go_wp2_with fail
  rw [hW.out]
  clear hW
  go_region_law ((first
    | (go_simp; go_at_call 28; refine (HC.out _ (Below.refl _ _).drew).mono ?_; clear HC; rintro e u1 ⟨a', c', ts, rfl, hv1, ho1, hb1⟩; have hb1' := (Below.refl W.heap.size W).drew.trans hb1; have z1 := (HBX.out u1 hb1').cell 1 _ rfl; have y0 := (HBY.out u1 hb1').cell 0 _ rfl; have y1 := (HBY.out u1 hb1').cell 1 _ rfl; have g0 := (HBY.out u1 hb1').frozen 0; have g1 := (HBY.out u1 hb1').frozen 1)
    | fail))
  all_goals
    have hs1 := hb1'.size
    obtain ⟨WF, hWF, bF, hwF, hsF⟩ := box2_fill (HBY.out u1 hb1') (.slice a' ts.length c') (.int .i64 s)
    have q0 := bF.cell 0 _ rfl
    have q1 := bF.cell 1 _ rfl
    have ho1' : OwnRs u1 W.heap.size u1.heap.size a' c' ts := ho1
    have hoF := (ho1'.within hwF (.inr (by omega))).widen (show w.heap.size ≤ W.heap.size by omega) (show u1.heap.size ≤ WF.heap.size by omega) (Nat.le_refl _)
    have hbF : Below w.heap.size w WF := (hbW.trans (hb1'.mono (by omega))).trans (hwF.below (by omega) (by omega))
    rw [hWF.out]
    clear hwF hsF bF ho1 ho1' z1 y0 y1 g0 g1
    go_wp2
    exact bodyPost_ret (v := .agg #[.slice a' ts.length c', .int .i64 s]) (by simp [results, Tryz.results26, go_sem, q0, q1]) rfl ⟨⟨ts, s, a', c'⟩, rfl, by simp only [Hid, LogA.v]; rw [hv1.out], hoF, hbF⟩
end Go.Proofs.YtbpdocjkhmiimabGreatDoor

/- Appending a record as a step of a region that draws its order. -/
namespace Go.Proofs.YtbpdocjkhmiimabGreatDoor
open Go.RowKit

theorem run_append_rec {w : World} (ty : TypeId) (lo hi : Nat) (a : Option Addr) (c : Nat) (rs : List RecA) (hown : OwnRs w lo hi a c rs)
    (b off : Nat) (sc : Nat) (q : RecA) (hr : w.rangeAt b off q.cells) (l u : Nat) (hq : q.own w l u) (hl : hi ≤ l) (hu : u ≤ w.heap.size)
    (hb : rs.length + 1 ≤ 68719476736) (hlo : lo ≤ hi) :
    ∃ a' c' w', (Builtin.append_ #[26, 26] ty #[.slice a rs.length c, .slice (some ⟨b, off, none⟩) 1 sc]).run Tryz.prog w = .ok (.slice a' (rs ++ [q]).length c') w' ∧ OwnRs w' lo w'.heap.size a' c' (rs ++ [q]) ∧ w.grownBy w' (Value.slice a rs.length c).ownBlock := by
  obtain ⟨i0, hi0, hz0, hz1, hz2⟩ := info_parts Tryz.infoRec
  have hqb := hq.blocks_lt
  have htop := hown.top
  obtain ⟨v', w', hrun, h1, h2, _, _⟩ := run_append_own_at (P := Tryz.prog) w lo 26 ty 59 i0 (.agg zeroR.cells.toArray) 15 200 Tryz.underlying26 hi0 hz0 hz1 hz2 rfl (by decide) _ _ _ hown.row ⟨b, off, none⟩ 1 sc q.cells (by rfl) (by
    intro j v hj
    rw [Addr_add]
    exact hr j v hj) (oneR q) (by simp only [maxLen]; omega) (by omega) (by omega)
  have e : cellsRs rs ++ q.cells = cellsRs (rs ++ [q]) := by rw [cellsRs_app, cellsRs_cons]; simp [cellsRs]
  have e2 : rs.length + 1 = (rs ++ [q]).length := by simp
  rw [e, e2] at h1
  have sh : ∃ a' c', v' = .slice a' (rs ++ [q]).length c' := by
    rcases h1.2 with ⟨rfl, h0⟩ | ⟨g, cap, cur, rfl, _⟩
    · simp at h0
    · exact ⟨_, _, rfl⟩
  obtain ⟨a', c', rfl⟩ := sh
  have hsz := h2.size
  have ht : Touch (Value.slice a rs.length c).ownBlock.toList w w' := Touch.of_grown h2 (fun k hk => Option.mem_toList.2 hk)
  have hrow := h1.lt
  have hold : ∀ r ∈ rs, r.own w' lo w'.heap.size := fun r hr => ((hown.each r hr).touch ht (fun k hk hk' => (List.nodup_append.1 hown.apart).2.2 k hk' k (List.mem_flatMap.2 ⟨r, hr, hk⟩) rfl)).widen (Nat.le_refl _) (by omega) (Nat.le_refl _)
  have hnew : q.own w' lo w'.heap.size := (hq.touch ht (fun k hk hk' => by have := hqb k hk; have := hown.blk k (Option.mem_toList.1 hk'); omega)).widen (by omega) (by omega) (Nat.le_refl _)
  refine ⟨a', c', w', hrun, ⟨h1, Nat.le_refl _, fun k hk => (hrow k hk).2, fun r hr => ?_, ?_⟩, h2⟩
  · rcases List.mem_append.1 hr with hr | hr
    · exact hold r hr
    · obtain rfl := List.mem_singleton.1 hr
      exact hnew
  · rw [List.flatMap_append, List.nodup_append, List.nodup_append]
    have hap := (List.nodup_append.1 hown.apart).2.1
    have hin : ∀ x ∈ rs.flatMap RecA.blocks, lo ≤ x ∧ x < hi := fun x hx => by
      obtain ⟨r, hr, hx⟩ := List.mem_flatMap.1 hx
      exact (hown.each r hr).blocks_lt x hx
    refine ⟨by cases (Value.slice a' (rs ++ [q]).length c').ownBlock <;> simp, ⟨hap, by simpa using hq.apart, fun x hx y hy e => ?_⟩, fun x hx y hy e => ?_⟩
    · have := hin x hx
      simp only [List.flatMap_cons, List.flatMap_nil, List.append_nil] at hy
      have := hqb y hy
      omega
    · have hx' := Option.mem_toList.1 hx
      subst e
      rcases List.mem_append.1 hy with hy | hy
      · obtain ⟨r, hr, hy⟩ := List.mem_flatMap.1 hy
        exact row_apart h1 (hold r hr) x hx' hy
      · simp only [List.flatMap_cons, List.flatMap_nil, List.append_nil] at hy
        exact row_apart h1 hnew x hx' hy

theorem step_append_rec {w : World} {ops : Array Oper} {o : Oper} {act : Act} {K : Act → World → Prop} {Q : Exit → Act → World → Prop} {E : Prop} (hgd : o.guard = none) (s x : Operand)
    (ho : o.op = .call { callee := .builtin .append, args := #[s, x], argTypes := #[26, 26] })
    (lo hi : Nat) (a : Option Addr) (c : Nat) (rs : List RecA) (hs : act.eval s = .slice a rs.length c) (hown : OwnRs w lo hi a c rs)
    (b off : Nat) (sc : Nat) (q : RecA) (hx : act.eval x = .slice (some ⟨b, off, none⟩) 1 sc) (hr : w.rangeAt b off q.cells) (l u : Nat) (hq : q.own w l u) (hl : hi ≤ l) (hu : u ≤ w.heap.size)
    (hb : rs.length + 1 ≤ 68719476736) (hlo : lo ≤ hi)
    (h : ∀ a' c' w', OwnRs w' lo w'.heap.size a' c' (rs ++ [q]) → w.grownBy w' (Value.slice a rs.length c).ownBlock → K (act.put o.dst (.slice a' (rs ++ [q]).length c')) w') :
    if Region.wanted o (yielded ops act.tmps) = true then Oper.wp Tryz.prog o act w K Q else E := by
  have hw : Region.wanted o (yielded ops act.tmps) = true := by simp [Region.wanted, hgd]
  rw [if_pos hw]
  obtain ⟨a', c', w', hrun, h2, h3⟩ := run_append_rec (w := w) o.type lo hi a c rs hown b off sc q hr l u hq hl hu hb hlo
  unfold Oper.wp
  simp [execOp, ho, resolve, invoke, builtin, hs, hx, hrun, Result.andThen]
  have := h a' c' w' h2 h3
  rw [List.length_append, List.length_singleton] at this
  exact this
end Go.Proofs.YtbpdocjkhmiimabGreatDoor

/- The walk of spec.l5Copy. -/
namespace Go.Proofs.YtbpdocjkhmiimabGreatDoor
open Go.RowKit
attribute [local go_sem ↓] Go.wp_at_zero Go.wp_at_succ

theorem lit_rec (q : RecA) : List.foldl (fun cs x => cs.setIfInBounds x.snd x.fst) (#[.int .i64 0, .int .i64 0, .int .i64 0, .int .i64 0, .int .i64 0, .bool false, .int .i64 0, .slice none 0 0, .slice none 0 0, .bool false, .int .i64 0, .slice none 0 0, .slice none 0 0, .int .i64 0, .slice none 0 0] : Array Value) q.cells.zipIdx = q.cells.toArray := by simp [RecA.cells, List.zipIdx]

set_option maxHeartbeats 4000000 in
set_option maxRecDepth 100000 in
theorem l5Copy_any (l : LogA) (w : World) (hr : l.reads w) (hl : l.short 1048576) (hcp : ∀ r ∈ l.recs, r.aL = none → r.cL = 0) :
    Calls Tryz.prog 22 #[.agg l.cells.toArray] w fun e w' => ∃ t : LogA, e = .returned (.agg t.cells.toArray) ∧ Hid (t.v = l.v) ∧ t.own w' w.heap.size w'.heap.size ∧ Below w.heap.size w w' := by
  obtain ⟨rs, s, a, c⟩ := l
  have hl2 := (LogA.short_wide hl).each
  have hl0 := hl.len
  simp only [LogA.reads, LogA.cells, LogA.own] at *
  obtain ⟨W, hW, b0, b1, b2, hbW, hsW⟩ := boxes3 w [.slice a rs.length c, .int .i64 s] [.slice none 0 0, .int .i64 0] [.slice none 0 0, .int .i64 s] 28 28 28
  have hs0 : w.heap.size + 1 + 1 < W.heap.size := by omega
  clear hsW
  have x0 := b0.cell 0 _ rfl
  have x1 := b0.cell 1 _ rfl
  have HC : Hid (∀ k, k < rs.length → ∃ b off, a = some ⟨b, off, none⟩ ∧ w.rangeAt b (off + k * 15) (rs.getD k zeroR).cells ∧ (rs.getD k zeroR).reads w ∧ (rs.getD k zeroR).short 1099511627776 ∧ ((rs.getD k zeroR).aL = none → (rs.getD k zeroR).cL = 0)) := fun k hk => by
    obtain ⟨b, off, ha, hc⟩ := hr (by intro e; rw [e] at hk; simp at hk)
    exact ⟨b, off, ha, (hc k hk).1, (hc k hk).2, hl2 _ (recD_mem rs k hk), hcp _ (recD_mem rs k hk)⟩
  have HI : Hid ((Tryz.prog.info? 59).map (·.size) = some 15) := by rw [Hid]; kernel_rfl
  clear hr hl hl2 hcp
  go_enter Tryz.func22, Tryz.ntmps22
  go_wp2_with fail
  rw [hW.out]
  clear hW x0 x1
  go_loopw [4] (fun i wr => ∃ (k : Nat) (ts : List RecA) (a' : Option Addr) (c' : Nat), k ≤ rs.length ∧ i = .int .i64 k ∧ Hid (Came rs ts k) ∧ Box wr (w.heap.size + 1 + 1) [.slice a' ts.length c', .int .i64 s] 28 ∧ Box wr w.heap.size [.slice a rs.length c, .int .i64 s] 28 ∧ Box wr (w.heap.size + 1) [.slice none 0 0, .int .i64 0] 28 ∧ OwnRs wr W.heap.size wr.heap.size a' c' ts ∧ Below w.heap.size w wr ∧ W.heap.size ≤ wr.heap.size)
    (fun i _ => rs.length - (intOf i).toNat)
  case atStart => exact ⟨0, [], none, 0, Nat.zero_le _, rfl, came_none rs, b2, b0, b1, ownRs_nil _ _ _ (Nat.le_refl _), hbW, Nat.le_refl _⟩
  case round =>
    obtain ⟨k, ts, a', c', hk, rfl, hc, k2, k0, k1, hown, hnx, hsz⟩ := hrel
    clear b0 b1 b2 hbW
    have x0 := k0.cell 0 _ rfl
    by_cases hlt : k < rs.length
    · obtain ⟨b, off, rfl, hcell, hrd, hsh, hnc⟩ := HC.out k hlt
      have hbB := rangeR_lt hcell
      have hnw := hnx.size
      have HR : Hid (∀ u, Below w.heap.size w u → u.rangeAt b (off + k * 15) (rs.getD k zeroR).cells) := fun u hu => rangeAt_below hcell hu hbB
      have HS : Hid (∀ q : RecA, q.v = (rs.getD k zeroR).v → Came rs (ts ++ [q]) (k + 1)) := fun q hq => hc.out.snoc hlt hq
      have HL : Hid (ts.length = k) := hc.out.1
      clear hcell HC
      generalize rs.getD k zeroR = z at *
      have e0 := k2.cell 0 _ rfl
      have HSS : Hid (∀ u, Below w.heap.size w u → Box u w.heap.size [.slice (some ⟨b, off, none⟩) rs.length c, .int .i64 s] 28 → u.rangeAt b (off + k * 15) z.cells ∧ u.cell? ⟨w.heap.size, 0, none⟩ = some (.slice (some ⟨b, off, none⟩) rs.length c)) := fun u h1 h2 => ⟨HR.out u h1, h2.cell 0 _ rfl⟩
      go_wp2_with fail
      refine wp_region_held_drew (S := fun w' => w'.rangeAt b (off + k * 15) z.cells ∧ w'.cell? ⟨w.heap.size, 0, none⟩ = some (.slice (some ⟨b, off, none⟩) rs.length c)) (by kernel_rfl) ?_ (fun hHeld => ?_)
      · exact HSS.out _ hnx.drew (k0.drewN 1)
      refine wpAnyH_take (i := 0) (v := .pointer (some ⟨w.heap.size + 1 + 1, 0, none⟩)) rfl (by kernel_rfl) (by kernel_rfl) (by kernel_rfl) (fun _ _ _ h => h) (Or.inl ⟨by rfl, ?_⟩) hHeld ?_
      · intro w' hSw
        go_simp <;> rfl
      try simp only [Act.put, List.getElem_toArray, List.getElem_cons_zero, List.setIfInBounds_toArray, List.set_cons_zero, List.set_cons_succ]
      refine wpAnyH_take (i := 2) (v := .pointer (some ⟨w.heap.size, 0, none⟩)) rfl (by kernel_rfl) (by kernel_rfl) (by kernel_rfl) (fun _ _ _ h => h) (Or.inl ⟨by rfl, ?_⟩) hHeld ?_
      · intro w' hSw
        go_simp <;> rfl
      try simp only [Act.put, List.getElem_toArray, List.getElem_cons_zero, List.getElem_cons_succ, List.setIfInBounds_toArray, List.set_cons_zero, List.set_cons_succ]
      refine wpAnyH_take (i := 3) (v := .slice (some ⟨b, off, none⟩) rs.length c) rfl (by kernel_rfl) (by kernel_rfl) (by kernel_rfl) (fun _ _ _ h => h) (Or.inl ⟨by rfl, ?_⟩) hHeld ?_
      · intro w' hSw
        have hx := hSw.2
        go_simp <;> rfl
      try simp only [Act.put, List.getElem_toArray, List.getElem_cons_zero, List.getElem_cons_succ, List.setIfInBounds_toArray, List.set_cons_zero, List.set_cons_succ]
      refine wpAnyH_take (i := 4) (v := .int .i64 k) rfl (by kernel_rfl) (by kernel_rfl) (by kernel_rfl) (fun _ _ _ h => h) (Or.inl ⟨by rfl, ?_⟩) hHeld ?_
      · intro w' hSw
        go_simp <;> rfl
      try simp only [Act.put, List.getElem_toArray, List.getElem_cons_zero, List.getElem_cons_succ, List.setIfInBounds_toArray, List.set_cons_zero, List.set_cons_succ]
      refine wpAnyH_take (i := 5) (v := .pointer (some ⟨b, off + k * 15, none⟩)) rfl (by kernel_rfl) (by kernel_rfl) (by kernel_rfl) (fun _ _ _ h => h) (Or.inl ⟨by rfl, ?_⟩) hHeld ?_
      · intro w' hSw
        go_simp <;> rfl
      try simp only [Act.put, List.getElem_toArray, List.getElem_cons_zero, List.getElem_cons_succ, List.setIfInBounds_toArray, List.set_cons_zero, List.set_cons_succ]
      refine wpAnyH_take (i := 6) rfl (by kernel_rfl) (by kernel_rfl) (by kernel_rfl) (fun _ _ _ h => h) (yieldsIf_load_mid (by rfl) _ _ rfl _ _ rfl z.cells _ (fun _ h => h.1) Tryz.underlying59 rfl HI.out) hHeld ?_
      try simp only [Act.put, List.getElem_toArray, List.getElem_cons_zero, List.getElem_cons_succ, List.setIfInBounds_toArray, List.set_cons_zero, List.set_cons_succ]
      have hnd : Below wr.heap.size wr wr.drew := (Below.refl _ _).drew
      have C := l5CopyRec_own z wr.drew (hrd.below hnx.drew) hsh hnc
      refine wpAnyH_ready (rs := [1, 7]) (by kernel_rfl) (by simp) ?_
      refine AllReadyH.cons rfl (fun K hK => ?_) (AllReadyH.cons rfl (fun K hK => ?_) AllReadyH.nil)
      · go_simp
        refine hK.out _ _ (hHeld) (fun hHeld => ?_)
        clear hK K
        try simp only [Act.put, List.getElem_toArray, List.getElem_cons_zero, List.getElem_cons_succ, List.setIfInBounds_toArray, List.set_cons_zero, List.set_cons_succ]
        refine wpAnyH_ready (rs := [7]) (by kernel_rfl) (by simp) ?_
        refine AllReadyH.cons rfl (fun K hK => ?_) AllReadyH.nil
        go_simp
        refine C.mono ?_
        clear C
        rintro e u2 ⟨q, rfl, hq, hqo, hb2⟩
        have hb2' : Below wr.heap.size wr u2 := hnd.trans hb2
        have hn2 : Below w.heap.size w u2 := hnx.trans (hb2'.mono hnw)
        have k22 := k2.below hb2' k2.lt
        have k02 := k0.below hb2' k0.lt
        have k12 := k1.below hb2' k1.lt
        have o2 := hown.below hb2'
        have hqo2 : q.own u2 wr.heap.size u2.heap.size := hqo
        have hs2 := hb2'.size
        refine hK.out _ _ (HSS.out _ hn2 k02) (fun hHeld => ?_)
        clear hK K
        try simp only [Act.put, List.getElem_toArray, List.getElem_cons_zero, List.getElem_cons_succ, List.setIfInBounds_toArray, List.set_cons_zero, List.set_cons_succ]
        refine wpAnyH_ready (rs := [8]) (by kernel_rfl) (by simp) ?_
        refine AllReadyH.cons rfl (fun K hK => ?_) AllReadyH.nil
        go_simp
        simp only [cellsR_len, lit_rec, not_true_eq_false, Nat.lt_irrefl, or_self, if_false]
        go_simp
        obtain ⟨W3, hW3, b3, hb3, hs3⟩ := boxes1 u2 q.cells 59
        rw [hW3.out]
        have hn3 : Below w.heap.size w W3 := hn2.trans (hb3.mono hn2.size)
        have k23 := k22.below hb3 k22.lt
        have k03 := k02.below hb3 k02.lt
        have k13 := k12.below hb3 k12.lt
        have o3 := o2.below hb3
        have hqo3 := hqo2.below hb3
        have r3 : W3.rangeAt u2.heap.size 0 q.cells := Box.range [] q.cells [] (by simpa using b3)
        have hs3' := b3.lt
        clear hs3 hb3 hW3 b3 k02 k12 o2 hqo2
        refine hK.out _ _ (HSS.out _ hn3 k03) (fun hHeld => ?_)
        clear hK K
        try simp only [Act.put, List.getElem_toArray, List.getElem_cons_zero, List.getElem_cons_succ, List.setIfInBounds_toArray, List.set_cons_zero, List.set_cons_succ]
        have hll : ts.length + 1 ≤ 68719476736 := by have := HL.out; omega
        refine wpAnyH_ready (rs := [9]) (by kernel_rfl) (by simp) ?_
        refine AllReadyH.cons rfl (fun K hK => ?_) AllReadyH.nil
        refine step_append_rec rfl (.tmp 16) (.tmp 23) rfl W.heap.size wr.heap.size a' c' ts rfl o3 u2.heap.size 0 1 q rfl r3 wr.heap.size u2.heap.size hqo3 (Nat.le_refl _) (by omega) hll hsz ?_
        intro a9 c9 w9 o9 g9
        have HCM := HS.out q hq.out
        obtain ⟨ys, hys⟩ : ∃ ys, Hid (ts ++ [q] = ys) := ⟨_, rfl⟩
        rw [hys.out] at o9 HCM ⊢
        have hw9 : Within W.heap.size wr.heap.size W3 w9 := Within.of_grown g9 (fun j hj => ⟨(o3.row.lt j hj).1, o3.blk j hj⟩)
        have hs9 := hw9.size
        have hn9 : Below w.heap.size w w9 := hn3.trans (hw9.below (by omega) (by omega))
        have k29 := k23.within hw9 (by omega)
        have k09 := k03.within hw9 (by omega)
        have k19 := k13.within hw9 (by omega)
        refine hK.out _ _ (HSS.out _ hn9 k09) (fun hHeld => ?_)
        clear hK K hw9 g9 o3 r3 hqo3 k23 k03 k13
        try simp only [Act.put, List.getElem_toArray, List.getElem_cons_zero, List.getElem_cons_succ, List.setIfInBounds_toArray, List.set_cons_zero, List.set_cons_succ]
        refine wpAnyH_take (i := 10) (v := .pointer (some ⟨w.heap.size + 1 + 1, 0, none⟩)) rfl (by kernel_rfl) (by kernel_rfl) (by kernel_rfl) (fun _ _ _ h => h) (Or.inl ⟨by rfl, ?_⟩) hHeld ?_
        · intro w' hSw
          go_simp <;> rfl
        try simp only [Act.put, List.getElem_toArray, List.getElem_cons_zero, List.getElem_cons_succ, List.setIfInBounds_toArray, List.set_cons_zero, List.set_cons_succ]
        have m0 := k29.cell 0 _ rfl
        have mf0 := k29.frozen 0
        obtain ⟨WF, hWF, kF, hwF, hsF⟩ := box_set k29 0 (.slice a9 ys.length c9)
        simp only [List.set] at kF
        have hsFa := Nat.le_of_eq hsF
        have hsFb := Nat.le_of_eq hsF.symm
        clear hsF
        have k0F := k09.within hwF (by omega)
        have k1F := k19.within hwF (by omega)
        have oF := (o9.within hwF (.inr (by omega))).widen (Nat.le_refl _) hsFb (Nat.le_refl _)
        have hnF : Below w.heap.size w WF := hn9.trans (hwF.below (by omega) (by omega))
        clear hwF k29 k09 k19 o9
        refine wpAnyH_ready (rs := [11]) (by kernel_rfl) (by simp) ?_
        refine AllReadyH.cons rfl (fun K hK => ?_) AllReadyH.nil
        go_simp
        rw [hWF.out]
        refine hK.out _ _ (HSS.out _ hnF k0F) (fun hHeld => ?_)
        clear hK K
        try simp only [Act.put, List.getElem_toArray, List.getElem_cons_zero, List.getElem_cons_succ, List.setIfInBounds_toArray, List.set_cons_zero, List.set_cons_succ]
        refine wpAnyH_done (by kernel_rfl) ?_ _
        clear m0 mf0 hWF
        go_wp2_with fail
        go_roundw
        case rel => exact ⟨k + 1, ys, a9, c9, by omega, by go_num, HCM, kF, k0F, k1F, oF, hnF, by omega⟩
        case measure => simp [intOf]; omega
      · go_simp
        refine C.mono ?_
        clear C
        rintro e u2 ⟨q, rfl, hq, hqo, hb2⟩
        have hb2' : Below wr.heap.size wr u2 := hnd.trans hb2
        have hn2 : Below w.heap.size w u2 := hnx.trans (hb2'.mono hnw)
        have k22 := k2.below hb2' k2.lt
        have k02 := k0.below hb2' k0.lt
        have k12 := k1.below hb2' k1.lt
        have o2 := hown.below hb2'
        have hqo2 : q.own u2 wr.heap.size u2.heap.size := hqo
        have hs2 := hb2'.size
        refine hK.out _ _ (HSS.out _ hn2 k02) (fun hHeld => ?_)
        clear hK K
        try simp only [Act.put, List.getElem_toArray, List.getElem_cons_zero, List.getElem_cons_succ, List.setIfInBounds_toArray, List.set_cons_zero, List.set_cons_succ]
        refine wpAnyH_ready (rs := [1, 8]) (by kernel_rfl) (by simp) ?_
        refine AllReadyH.cons rfl (fun K hK => ?_) (AllReadyH.cons rfl (fun K hK => ?_) AllReadyH.nil)
        · have d0 := k22.cell 0 _ rfl
          go_simp
          refine hK.out _ _ (hHeld) (fun hHeld => ?_)
          clear hK K
          try simp only [Act.put, List.getElem_toArray, List.getElem_cons_zero, List.getElem_cons_succ, List.setIfInBounds_toArray, List.set_cons_zero, List.set_cons_succ]
          refine wpAnyH_ready (rs := [8]) (by kernel_rfl) (by simp) ?_
          refine AllReadyH.cons rfl (fun K hK => ?_) AllReadyH.nil
          go_simp
          simp only [cellsR_len, lit_rec, not_true_eq_false, Nat.lt_irrefl, or_self, if_false]
          go_simp
          obtain ⟨W3, hW3, b3, hb3, hs3⟩ := boxes1 u2 q.cells 59
          rw [hW3.out]
          have hn3 : Below w.heap.size w W3 := hn2.trans (hb3.mono hn2.size)
          have k23 := k22.below hb3 k22.lt
          have k03 := k02.below hb3 k02.lt
          have k13 := k12.below hb3 k12.lt
          have o3 := o2.below hb3
          have hqo3 := hqo2.below hb3
          have r3 : W3.rangeAt u2.heap.size 0 q.cells := Box.range [] q.cells [] (by simpa using b3)
          have hs3' := b3.lt
          clear hs3 hb3 hW3 b3 k02 k12 o2 hqo2
          refine hK.out _ _ (HSS.out _ hn3 k03) (fun hHeld => ?_)
          clear hK K
          try simp only [Act.put, List.getElem_toArray, List.getElem_cons_zero, List.getElem_cons_succ, List.setIfInBounds_toArray, List.set_cons_zero, List.set_cons_succ]
          have hll : ts.length + 1 ≤ 68719476736 := by have := HL.out; omega
          refine wpAnyH_ready (rs := [9]) (by kernel_rfl) (by simp) ?_
          refine AllReadyH.cons rfl (fun K hK => ?_) AllReadyH.nil
          refine step_append_rec rfl (.tmp 16) (.tmp 23) rfl W.heap.size wr.heap.size a' c' ts rfl o3 u2.heap.size 0 1 q rfl r3 wr.heap.size u2.heap.size hqo3 (Nat.le_refl _) (by omega) hll hsz ?_
          intro a9 c9 w9 o9 g9
          have HCM := HS.out q hq.out
          obtain ⟨ys, hys⟩ : ∃ ys, Hid (ts ++ [q] = ys) := ⟨_, rfl⟩
          rw [hys.out] at o9 HCM ⊢
          have hw9 : Within W.heap.size wr.heap.size W3 w9 := Within.of_grown g9 (fun j hj => ⟨(o3.row.lt j hj).1, o3.blk j hj⟩)
          have hs9 := hw9.size
          have hn9 : Below w.heap.size w w9 := hn3.trans (hw9.below (by omega) (by omega))
          have k29 := k23.within hw9 (by omega)
          have k09 := k03.within hw9 (by omega)
          have k19 := k13.within hw9 (by omega)
          refine hK.out _ _ (HSS.out _ hn9 k09) (fun hHeld => ?_)
          clear hK K hw9 g9 o3 r3 hqo3 k23 k03 k13
          try simp only [Act.put, List.getElem_toArray, List.getElem_cons_zero, List.getElem_cons_succ, List.setIfInBounds_toArray, List.set_cons_zero, List.set_cons_succ]
          refine wpAnyH_take (i := 10) (v := .pointer (some ⟨w.heap.size + 1 + 1, 0, none⟩)) rfl (by kernel_rfl) (by kernel_rfl) (by kernel_rfl) (fun _ _ _ h => h) (Or.inl ⟨by rfl, ?_⟩) hHeld ?_
          · intro w' hSw
            go_simp <;> rfl
          try simp only [Act.put, List.getElem_toArray, List.getElem_cons_zero, List.getElem_cons_succ, List.setIfInBounds_toArray, List.set_cons_zero, List.set_cons_succ]
          have m0 := k29.cell 0 _ rfl
          have mf0 := k29.frozen 0
          obtain ⟨WF, hWF, kF, hwF, hsF⟩ := box_set k29 0 (.slice a9 ys.length c9)
          simp only [List.set] at kF
          have hsFa := Nat.le_of_eq hsF
          have hsFb := Nat.le_of_eq hsF.symm
          clear hsF
          have k0F := k09.within hwF (by omega)
          have k1F := k19.within hwF (by omega)
          have oF := (o9.within hwF (.inr (by omega))).widen (Nat.le_refl _) hsFb (Nat.le_refl _)
          have hnF : Below w.heap.size w WF := hn9.trans (hwF.below (by omega) (by omega))
          clear hwF k29 k09 k19 o9
          refine wpAnyH_ready (rs := [11]) (by kernel_rfl) (by simp) ?_
          refine AllReadyH.cons rfl (fun K hK => ?_) AllReadyH.nil
          go_simp
          rw [hWF.out]
          refine hK.out _ _ (HSS.out _ hnF k0F) (fun hHeld => ?_)
          clear hK K
          try simp only [Act.put, List.getElem_toArray, List.getElem_cons_zero, List.getElem_cons_succ, List.setIfInBounds_toArray, List.set_cons_zero, List.set_cons_succ]
          refine wpAnyH_done (by kernel_rfl) ?_ _
          clear m0 mf0 hWF
          go_wp2_with fail
          go_roundw
          case rel => exact ⟨k + 1, ys, a9, c9, by omega, by go_num, HCM, kF, k0F, k1F, oF, hnF, by omega⟩
          case measure => simp [intOf]; omega
        · go_simp
          simp only [cellsR_len, lit_rec, not_true_eq_false, Nat.lt_irrefl, or_self, if_false]
          go_simp
          obtain ⟨W3, hW3, b3, hb3, hs3⟩ := boxes1 u2 q.cells 59
          rw [hW3.out]
          have hn3 : Below w.heap.size w W3 := hn2.trans (hb3.mono hn2.size)
          have k23 := k22.below hb3 k22.lt
          have k03 := k02.below hb3 k02.lt
          have k13 := k12.below hb3 k12.lt
          have o3 := o2.below hb3
          have hqo3 := hqo2.below hb3
          have r3 : W3.rangeAt u2.heap.size 0 q.cells := Box.range [] q.cells [] (by simpa using b3)
          have hs3' := b3.lt
          clear hs3 hb3 hW3 b3 k02 k12 o2 hqo2
          refine hK.out _ _ (HSS.out _ hn3 k03) (fun hHeld => ?_)
          clear hK K
          try simp only [Act.put, List.getElem_toArray, List.getElem_cons_zero, List.getElem_cons_succ, List.setIfInBounds_toArray, List.set_cons_zero, List.set_cons_succ]
          have d0 := k23.cell 0 _ rfl
          refine wpAnyH_ready (rs := [1]) (by kernel_rfl) (by simp) ?_
          refine AllReadyH.cons rfl (fun K hK => ?_) AllReadyH.nil
          go_simp
          refine hK.out _ _ (hHeld) (fun hHeld => ?_)
          clear hK K
          try simp only [Act.put, List.getElem_toArray, List.getElem_cons_zero, List.getElem_cons_succ, List.setIfInBounds_toArray, List.set_cons_zero, List.set_cons_succ]
          have hll : ts.length + 1 ≤ 68719476736 := by have := HL.out; omega
          refine wpAnyH_ready (rs := [9]) (by kernel_rfl) (by simp) ?_
          refine AllReadyH.cons rfl (fun K hK => ?_) AllReadyH.nil
          refine step_append_rec rfl (.tmp 16) (.tmp 23) rfl W.heap.size wr.heap.size a' c' ts rfl o3 u2.heap.size 0 1 q rfl r3 wr.heap.size u2.heap.size hqo3 (Nat.le_refl _) (by omega) hll hsz ?_
          intro a9 c9 w9 o9 g9
          have HCM := HS.out q hq.out
          obtain ⟨ys, hys⟩ : ∃ ys, Hid (ts ++ [q] = ys) := ⟨_, rfl⟩
          rw [hys.out] at o9 HCM ⊢
          have hw9 : Within W.heap.size wr.heap.size W3 w9 := Within.of_grown g9 (fun j hj => ⟨(o3.row.lt j hj).1, o3.blk j hj⟩)
          have hs9 := hw9.size
          have hn9 : Below w.heap.size w w9 := hn3.trans (hw9.below (by omega) (by omega))
          have k29 := k23.within hw9 (by omega)
          have k09 := k03.within hw9 (by omega)
          have k19 := k13.within hw9 (by omega)
          refine hK.out _ _ (HSS.out _ hn9 k09) (fun hHeld => ?_)
          clear hK K hw9 g9 o3 r3 hqo3 k23 k03 k13
          try simp only [Act.put, List.getElem_toArray, List.getElem_cons_zero, List.getElem_cons_succ, List.setIfInBounds_toArray, List.set_cons_zero, List.set_cons_succ]
          refine wpAnyH_take (i := 10) (v := .pointer (some ⟨w.heap.size + 1 + 1, 0, none⟩)) rfl (by kernel_rfl) (by kernel_rfl) (by kernel_rfl) (fun _ _ _ h => h) (Or.inl ⟨by rfl, ?_⟩) hHeld ?_
          · intro w' hSw
            go_simp <;> rfl
          try simp only [Act.put, List.getElem_toArray, List.getElem_cons_zero, List.getElem_cons_succ, List.setIfInBounds_toArray, List.set_cons_zero, List.set_cons_succ]
          have m0 := k29.cell 0 _ rfl
          have mf0 := k29.frozen 0
          obtain ⟨WF, hWF, kF, hwF, hsF⟩ := box_set k29 0 (.slice a9 ys.length c9)
          simp only [List.set] at kF
          have hsFa := Nat.le_of_eq hsF
          have hsFb := Nat.le_of_eq hsF.symm
          clear hsF
          have k0F := k09.within hwF (by omega)
          have k1F := k19.within hwF (by omega)
          have oF := (o9.within hwF (.inr (by omega))).widen (Nat.le_refl _) hsFb (Nat.le_refl _)
          have hnF : Below w.heap.size w WF := hn9.trans (hwF.below (by omega) (by omega))
          clear hwF k29 k09 k19 o9
          refine wpAnyH_ready (rs := [11]) (by kernel_rfl) (by simp) ?_
          refine AllReadyH.cons rfl (fun K hK => ?_) AllReadyH.nil
          go_simp
          rw [hWF.out]
          refine hK.out _ _ (HSS.out _ hnF k0F) (fun hHeld => ?_)
          clear hK K
          try simp only [Act.put, List.getElem_toArray, List.getElem_cons_zero, List.getElem_cons_succ, List.setIfInBounds_toArray, List.set_cons_zero, List.set_cons_succ]
          refine wpAnyH_done (by kernel_rfl) ?_ _
          clear m0 mf0 hWF
          go_wp2_with fail
          go_roundw
          case rel => exact ⟨k + 1, ys, a9, c9, by omega, by go_num, HCM, kF, k0F, k1F, oF, hnF, by omega⟩
          case measure => simp [intOf]; omega
    · have HE : Hid (ts.map RecA.v = rs.map RecA.v) := by
        have e : k = rs.length := by omega
        rw [e] at hc
        exact hc.out.all
      have e0 := k2.cell 0 _ rfl
      have e1 := k2.cell 1 _ rfl
      have m0 := k1.cell 0 _ rfl
      have m1 := k1.cell 1 _ rfl
      have mf0 := k1.frozen 0
      have mf1 := k1.frozen 1
      obtain ⟨WF, hWF, bF, hwF, hsF⟩ := box2_fill k1 (.slice a' ts.length c') (.int .i64 s)
      have q0 := bF.cell 0 _ rfl
      have q1 := bF.cell 1 _ rfl
      have hoF := (hown.within hwF (.inr (by omega))).widen (show w.heap.size ≤ W.heap.size by omega) (show wr.heap.size ≤ WF.heap.size by omega) (Nat.le_refl _)
      have hbF : Below w.heap.size w WF := hnx.trans (hwF.below (by omega) (by have := hnx.size; omega))
      clear hwF hsF bF
      go_wp2
      rw [hWF.out]
      exact bodyPost_ret (v := .agg #[.slice a' ts.length c', .int .i64 s]) (by simp [results, Tryz.results22, go_sem, q0, q1]) rfl ⟨⟨ts, s, a', c'⟩, rfl, by simp only [Hid, LogA.v]; rw [HE.out], hoF, hbF⟩
end Go.Proofs.YtbpdocjkhmiimabGreatDoor

/- Logs: when they are right, what is made of them. -/
namespace Go.Proofs.YtbpdocjkhmiimabGreatDoor
open Go.RowKit

theorem zeroR_v : zeroR.v = noR := rfl
theorem getD_v (rs : List RecA) (k : Nat) : (rs.map RecA.v).getD k noR = (rs.getD k zeroR).v := by
  simp only [List.getD, List.getElem?_map]
  cases rs[k]? <;> rfl
def okAt (rs : List RecV) (k : Nat) : Bool := ((rs.getD k noR).lsn == (k + 1 : Int)) && okR (rs.getD k noR)
/-- Is the log right? -/
def okLog (l : LogV) : Bool := decide (l.recs.length ≤ 4000) && (inB l.sure 0 l.recs.length && (List.range l.recs.length).all (okAt l.recs))
theorem okLog_len {l : LogV} (h : ¬ l.recs.length ≤ 4000) : okLog l = false := by simp [okLog, h]
theorem okLog_sure {l : LogV} (h : inB l.sure 0 l.recs.length = false) : okLog l = false := by simp [okLog, h]
theorem okLog_no {l : LogV} (k : Nat) (hk : k < l.recs.length) (h : okAt l.recs k = false) : okLog l = false := by
  have : (List.range l.recs.length).all (okAt l.recs) = false := by
    rw [List.all_eq_false]
    exact ⟨k, List.mem_range.2 hk, by rw [h]; decide⟩
  simp [okLog, this]
theorem okLog_all {l : LogV} (h0 : l.recs.length ≤ 4000) (h1 : inB l.sure 0 l.recs.length = true) (h : ∀ k, k < l.recs.length → okAt l.recs k = true) : okLog l = true := by
  have : (List.range l.recs.length).all (okAt l.recs) = true := by
    rw [List.all_eq_true]
    exact fun k hk => h k (List.mem_range.1 hk)
  simp [okLog, this, h0, h1]
theorem okLog_yes {l : LogV} (h : okLog l = true) : l.recs.length ≤ 4000 ∧ 0 ≤ l.sure ∧ l.sure ≤ l.recs.length ∧ ∀ k, k < l.recs.length → (l.recs.getD k noR).lsn = (k + 1 : Int) ∧ okR (l.recs.getD k noR) = true := by
  simp only [okLog, Bool.and_eq_true, decide_eq_true_eq, List.all_eq_true, List.mem_range, okAt, beq_iff_eq, inB] at h
  exact ⟨h.1, h.2.1.1, h.2.1.2, h.2.2⟩
theorem LogA.v_len (l : LogA) : l.v.recs.length = l.recs.length := by simp [LogA.v]
theorem LogA.v_at (l : LogA) (k : Nat) : l.v.recs.getD k noR = (l.recs.getD k zeroR).v := getD_v l.recs k
theorem okAt_v (l : LogA) (k : Nat) : okAt l.v.recs k = (((l.recs.getD k zeroR).lsn == (k + 1 : Int)) && okR (l.recs.getD k zeroR).v) := by
  unfold okAt
  rw [l.v_at]
  rfl

def lsnR (r : RecV) (n : Int) : RecV := { r with lsn := n }
def appendOf (l : LogV) (r : RecV) : LogV × Int :=
  if okLog l = true ∧ l.recs.length ≠ 4000 ∧ okR (lsnR r (l.recs.length + 1)) = true then (⟨l.recs ++ [lsnR r (l.recs.length + 1)], l.sure⟩, l.recs.length + 1) else (l, 0)
def forceOf (l : LogV) (n : Int) : LogV := if okLog l = true then ⟨l.recs, max l.sure (min n l.recs.length)⟩ else l
def leftOf (l : LogV) (keep : Int) : Nat := if keep < l.recs.length - l.sure then (l.sure + keep).toNat else l.recs.length
def tearOf (l : LogV) (keep : Int) : LogV := if okLog l = true ∧ 0 ≤ keep then ⟨l.recs.take (leftOf l keep), leftOf l keep⟩ else l
def logBytesOf (l : LogV) : List Int := if okLog l = true then l.recs.flatMap (fun r => frameOf (putRecOf r)) else []
end Go.Proofs.YtbpdocjkhmiimabGreatDoor
