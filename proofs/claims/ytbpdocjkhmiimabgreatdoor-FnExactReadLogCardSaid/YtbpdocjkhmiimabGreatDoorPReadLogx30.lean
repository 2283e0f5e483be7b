/- Several texts in one, in their order. -/
import Derived.Test.YtbpdocjkhmiimabGreatDoorPReadLogx29
import Derived.Test.YtbpdocjkhmiimabGreatDoorPReadLogx28
import Derived.Test.YtbpdocjkhmiimabGreatDoorPReadLogx19
import Derived.Deep.CutRange
import Derived.Test.YtbpdocjkhmiimabGreatDoorPReadLogx18
import Derived.Deep.RegionLaw
import Derived.Deep.DrawnRows
/- What the laws of logs share. -/
namespace Go.Proofs.YtbpdocjkhmiimabGreatDoor
open Go.RowKit

def zeroLog : LogA := ⟨[], 0, none, 0⟩
theorem LogA.reads.below {w w' : World} {l : LogA} (h : l.reads w) (hb : Below w.heap.size w w') : l.reads w' := ReadsRs.below h hb
theorem LogA.own.reads {w : World} {lo hi : Nat} {l : LogA} (h : l.own w lo hi) : l.reads w := OwnRs.reads h
theorem LogA.own.below {w w' : World} {lo hi : Nat} {l : LogA} (h : l.own w lo hi) (hb : Below w.heap.size w w') : l.own w' lo hi := OwnRs.below h hb
theorem LogA.own.within {w w' : World} {lo hi a b : Nat} {l : LogA} (h : l.own w lo hi) (hw : Within a b w w') (hd : hi ≤ a ∨ b ≤ lo) : l.own w' lo hi := OwnRs.within h hw hd
theorem LogA.own.widen {w : World} {lo hi lo' hi' : Nat} {l : LogA} (h : l.own w lo hi) (h1 : lo' ≤ lo) (h2 : hi ≤ hi') (h3 : hi' ≤ w.heap.size) : l.own w lo' hi' := OwnRs.widen h h1 h2 h3
def LogA.blocks (l : LogA) : List Nat := blocksRs l.a l.c l.recs
theorem LogA.own.blocks_lt {w : World} {lo hi : Nat} {l : LogA} (h : l.own w lo hi) : ∀ k ∈ l.blocks, lo ≤ k ∧ k < hi := OwnRs.blocks_lt h
theorem LogA.own.touch {w w' : World} {lo hi : Nat} {l : LogA} {bl : List Nat} (h : l.own w lo hi) (ht : Touch bl w w') (hd : ∀ k ∈ l.blocks, k ∉ bl) : l.own w' lo hi := OwnRs.touch h ht hd
theorem oneLog (l : LogA) : ∀ v ∈ l.cells, v.oneCell' = true := by
  intro v hv
  simp only [LogA.cells, List.mem_cons, List.not_mem_nil, or_false] at hv
  rcases hv with rfl | rfl <;> rfl
theorem InLog.reads {w : World} {l : LogA} (h : InLog w l) : l.reads w := h.recs
theorem log_one (q : LogA) : q.cells.toArray.all (·.oneCell') = true := all_oneCell_toArray (oneLog q)
theorem log_info (q : LogA) : (Tryz.prog.info? 28).map (·.size) = some q.cells.length := by show _ = some 2; kernel_rfl
theorem log_load {w : World} {C : Nat} (q : LogA) (b : Box w C q.cells 28) : (loadVar 28 ⟨C, 0, none⟩).run Tryz.prog w = .ok (.agg q.cells.toArray) w :=
  run_loadVar_mid (P := Tryz.prog) w C 0 28 q.cells _ (Box.range [] q.cells [] (by simpa using b)) Tryz.underlying28 rfl (log_info q)
theorem log_out {w : World} {C : Nat} (q : LogA) (old : List Value) (ho : old.length = 2) (bC : Box w C old 28) :
    ∃ WF, Hid (w.setCells C 0 q.cells = WF) ∧ Within C (C + 1) w WF ∧ WF.heap.size = w.heap.size ∧ Hid (w.there C 0 q.cells.toArray.size) ∧ Hid ((loadVar 28 ⟨C, 0, none⟩).run Tryz.prog WF = .ok (.agg q.cells.toArray) WF) ∧ Box WF C q.cells 28 := by
  obtain ⟨WF, hWF, bF, hwF, hsF⟩ := range_fill [] old q.cells [] (by simpa using bC) (by rw [ho]; rfl)
  have bF' : Box WF C q.cells 28 := by simpa using bF
  exact ⟨WF, hWF, hwF, hsF, bC.there 0 _ (by rw [ho]; show 0 + 2 ≤ 2; decide), log_load q bF', bF'⟩
theorem box2_fill {w : World} {B : Nat} {x0 x1 : Value} {t : TypeId} (b : Box w B [x0, x1] t) (v0 v1 : Value) :
    ∃ W, Hid ((w.setCell ⟨B, 0, none⟩ v0).setCell ⟨B, 1, none⟩ v1 = W) ∧ Box W B [v0, v1] t ∧ Within B (B + 1) w W ∧ W.heap.size = w.heap.size := by
  refine ⟨_, rfl, by simpa using (b.set 0 v0).set 1 v1, (within_set w B 0 v0 (by omega)).trans (within_set _ B 1 v1 (by omega)), by simp⟩
end Go.Proofs.YtbpdocjkhmiimabGreatDoor

/- The walk of spec.l5CopyRec. -/
namespace Go.Proofs.YtbpdocjkhmiimabGreatDoor
open Go.RowKit

/-- A record whose three lists are new. -/
def RecA.with (r : RecA) (t1 t2 : SlotA) (aL : Option Addr) (cL : Nat) : RecA := ⟨r.lsn, r.tx, r.prev, r.kind, r.oid, t1, t2, r.next, r.txs, aL, cL⟩
theorem with_v {r : RecA} {t1 t2 : SlotA} {aL : Option Addr} {cL : Nat} (h1 : t1.v = r.bf.v) (h2 : t2.v = r.af.v) : (r.with t1 t2 aL cL).v = r.v := by simp only [RecA.with, RecA.v, h1, h2]
theorem ownL_lit {w W : World} (h : w.alloc (.cells #[] 87) = W) : OwnL W w.heap.size W.heap.size (some ⟨w.heap.size, 0, none⟩) 0 [] := by
  subst h
  refine ⟨World.ownsRow_lit (size := 3) w #[] 0 (Nat.le_refl _) (by simp [maxLen]) rfl, Nat.le_refl _, fun k hk => ?_⟩
  simp [Value.ownBlock] at hk
  rw [World.size_alloc]
  omega

set_option maxHeartbeats 4000000 in
set_option maxRecDepth 100000 in
theorem l5CopyRec_own (r : RecA) (w : World) (hr : r.reads w) (hl : r.short 1099511627776) (hc : r.aL = none → r.cL = 0) :
    Calls Tryz.prog 41 #[.agg r.cells.toArray] w fun e w' => ∃ t : RecA, e = .returned (.agg t.cells.toArray) ∧ Hid (t.v = r.v) ∧ t.own w' w.heap.size w'.heap.size ∧ Below w.heap.size w w' := by
  obtain ⟨W, hW, b0, b1, hbW, hsW⟩ := boxes2 w r.cells [.int .i64 0, .int .i64 0, .int .i64 0, .int .i64 0, .int .i64 0, .bool false, .int .i64 0, .slice none 0 0, .slice none 0 0, .bool false, .int .i64 0, .slice none 0 0, .slice none 0 0, .int .i64 0, .slice none 0 0] 59 59
  have hs0 : w.heap.size + 1 < W.heap.size := by omega
  clear hsW
  have C1 := l3CopySlot_own r.bf W (ReadsO.below hr.bf hbW) hl.bf.1 hl.bf.2
  have HC : Hid (r.aL = none → r.cL = 0) := hc
  have HWV : Hid (∀ (t1 t2 : SlotA) (aL : Option Addr) (cL : Nat), t1.v = r.bf.v → t2.v = r.af.v → (r.with t1 t2 aL cL).v = r.v) := fun t1 t2 aL cL h1 h2 => with_v h1 h2
  have HWC : Hid (∀ (t1 t2 : SlotA) (aL : Option Addr) (cL : Nat), (r.with t1 t2 aL cL).cells = [.int .i64 r.lsn, .int .i64 r.tx, .int .i64 r.prev, .int .i64 r.kind, .int .i64 r.oid, .bool t1.v.has, .int .i64 t1.v.o.kind, .slice t1.aI t1.v.o.ints.length t1.cI, .slice t1.aR t1.v.o.refs.length t1.cR, .bool t2.v.has, .int .i64 t2.v.o.kind, .slice t2.aI t2.v.o.ints.length t2.cI, .slice t2.aR t2.v.o.refs.length t2.cR, .int .i64 r.next, .slice aL r.txs.length cL]) := fun _ _ _ _ => rfl
  simp only [RecA.cells] at b0 hW ⊢
  simp only [SlotA.cells] at C1
  clear hc
  go_enter Tryz.func41, Tryz.ntmps41
  go_wp2_with fail
  rw [hW.out]
  clear hW
  refine C1.mono ?_
  clear C1
  rintro e w1 ⟨t1, rfl, hv1, ho1, hb1⟩
  have b01 := b0.below hb1 b0.lt
  have b11 := b1.below hb1 b1.lt
  have hs1 := hb1.size
  clear b0 b1
  have x5 := b01.cell 5 _ rfl
  have xf5 := b01.frozen 5
  have x6 := b01.cell 6 _ rfl
  have xf6 := b01.frozen 6
  have x7 := b01.cell 7 _ rfl
  have xf7 := b01.frozen 7
  have x8 := b01.cell 8 _ rfl
  have xf8 := b01.frozen 8
  obtain ⟨W2, hW2, b02, hw2, hs2⟩ := box_quad b01 5 6 7 8 (.bool t1.v.has) (.int .i64 t1.v.o.kind) (.slice t1.aI t1.v.o.ints.length t1.cI) (.slice t1.aR t1.v.o.refs.length t1.cR)
  have hs2a := Nat.le_of_eq hs2
  have hs2b := Nat.le_of_eq hs2.symm
  clear hs2
  simp only [List.set] at b02
  have b12 := b11.within hw2 (by omega)
  have hB2 : Below w.heap.size w W2 := (hbW.trans (hb1.mono (by omega))).trans (hw2.below (by omega) (by omega))
  have ho2 := OwnO.within ho1 hw2 (.inr (by omega))
  have C2 := l3CopySlot_own r.af W2 (ReadsO.below hr.af hB2) hl.af.1 hl.af.2
  simp only [SlotA.cells] at C2
  clear b01 b11 hw2 ho1
  go_upto_region 2 with fail
  rw [hW2.out]
  clear x5 x6 x7 x8 xf5 xf6 xf7 xf8 hW2
  have y9 := b02.cell 9 _ rfl
  have y10 := b02.cell 10 _ rfl
  have y11 := b02.cell 11 _ rfl
  have y12 := b02.cell 12 _ rfl
  go_wp2_with fail
  refine C2.mono ?_
  clear C2 y9 y10 y11 y12
  rintro e w3 ⟨t2, rfl, hv2, ho3, hb3⟩
  have b03 := b02.below hb3 b02.lt
  have b13 := b12.below hb3 b12.lt
  have hs3 := hb3.size
  have ho23 := OwnO.below ho2 hb3
  clear b02 b12 ho2
  have x9 := b03.cell 9 _ rfl
  have xf9 := b03.frozen 9
  have x10 := b03.cell 10 _ rfl
  have xf10 := b03.frozen 10
  have x11 := b03.cell 11 _ rfl
  have xf11 := b03.frozen 11
  have x12 := b03.cell 12 _ rfl
  have xf12 := b03.frozen 12
  obtain ⟨W4, hW4, b04, hw4, hs4⟩ := box_quad b03 9 10 11 12 (.bool t2.v.has) (.int .i64 t2.v.o.kind) (.slice t2.aI t2.v.o.ints.length t2.cI) (.slice t2.aR t2.v.o.refs.length t2.cR)
  have hs4a := Nat.le_of_eq hs4
  have hs4b := Nat.le_of_eq hs4.symm
  clear hs4
  simp only [List.set] at b04
  have b14 := b13.within hw4 (by omega)
  have hB4 : Below w.heap.size w W4 := (hB2.trans (hb3.mono (by omega))).trans (hw4.below (by omega) (by omega))
  have hoA4 := OwnO.within ho23 hw4 (.inr (by omega))
  have hoB4 := OwnO.within ho3 hw4 (.inr (by omega))
  clear b03 b13 hw4 ho3 ho23 hb3
  go_upto_region 3 with fail
  rw [hW4.out]
  clear x9 x10 x11 x12 xf9 xf10 xf11 xf12 hW4
  obtain ⟨W5, hW5, bE, hb5, hs5⟩ := boxes1 W4 [] 87
  have hs5a := Nat.le_of_eq hs5
  have hs5b := Nat.le_of_eq hs5.symm
  clear hs5
  have hW5' : W4.alloc (.cells #[] 87) = W5 := hW5.out
  have HW5 : Hid (W4.alloc (.cells #[] 87) = W5) := hW5'
  have oE := ownL_lit hW5'
  clear bE hW5 hW5'
  have b05 := b04.below hb5 b04.lt
  have b15 := b14.below hb5 b14.lt
  have hoA5 := OwnO.below hoA4 hb5
  have hoB5 := OwnO.below hoB4 hb5
  have hB5 : Below w.heap.size w W5 := hB4.trans (hb5.mono (by omega))
  have k14 := b05.cell 14 _ rfl
  have k14' : (W4.alloc (.cells #[] 87)).cell? ⟨w.heap.size, 14, none⟩ = some (.slice r.aL r.txs.length r.cL) := by rw [HW5.out]; exact k14
  have hA1 : ([] : List LiveV).length + r.txs.length ≤ 1099511627776 := by have := hl.txs; simp only [List.length_nil]; omega
  have hrt : ReadsL W5 r.aL r.txs := hr.txs.below hB5
  have hs5' := hb5.size
  clear b04 b14 hoA4 hoB4
  have HNC : Hid (r.aL = none → r.cL = 0) := HC.out
  go_wp2_with (at_builtin; refine append_lives rfl _ _ rfl W4.heap.size _ (some ⟨W4.heap.size, 0, none⟩) 0 [] rfl (by rw [HW5.out]; exact oE) r.aL r.cL r.txs rfl (by rw [HW5.out]; exact hrt) HNC.out hA1 (by rw [HW5.out]; omega) ?_)
  intro aL cL ys w6 hys o6 g6
  rw [HW5.out] at g6
  have hw6 : Within W4.heap.size W5.heap.size W5 w6 := Within.of_grown g6 (fun j hj => oE.lt j hj)
  have hs6 := hw6.size
  have b06 := b05.within hw6 (by omega)
  have b16 := b15.within hw6 (by omega)
  have hoA6 := OwnO.within hoA5 hw6 (.inl (by omega))
  have hoB6 := OwnO.within hoB5 hw6 (.inl (by omega))
  have hB6 : Below w.heap.size w w6 := hB5.trans (hw6.below (by omega) (by omega))
  obtain rfl : ys = r.txs := hys.out.trans (List.nil_append _)
  clear hys g6 hw6 oE b05 b15 hoA5 hoB5 k14 k14' hrt HW5
  have HAP : Hid ((t1.blocks ++ (t2.blocks ++ (Value.slice aL r.txs.length cL).ownBlock.toList)).Nodup) := rec_apart (c := W4.heap.size) (OwnO.widen hoA6 (Nat.le_refl _) (show _ ≤ W2.heap.size by omega) (by omega)) (OwnO.widen hoB6 (Nat.le_refl _) (show _ ≤ W4.heap.size by omega) (by omega)) o6 (by omega)
  have x14 := b06.cell 14 _ rfl
  have f14 := b06.frozen 14
  obtain ⟨W7, hW7, b07, hw7, hs7⟩ := box_set b06 14 (.slice aL r.txs.length cL)
  have hs7a := Nat.le_of_eq hs7
  have hs7b := Nat.le_of_eq hs7.symm
  clear hs7
  simp only [List.set] at b07
  have b17 := b16.within hw7 (by omega)
  have b07' : Box W7 w.heap.size (r.with t1 t2 aL cL).cells 59 := by rw [HWC.out]; exact b07
  have hoA7 := OwnO.within hoA6 hw7 (.inr (by omega))
  have hoB7 := OwnO.within hoB6 hw7 (.inr (by omega))
  have o7 := o6.within hw7 (.inr (by omega))
  have hB7 : Below w.heap.size w W7 := hB6.trans (hw7.below (by omega) (by omega))
  clear hw7 b06 b16 hoA6 hoB6 o6
  go_upto_region 4 with fail
  rw [hW7.out]
  clear x14 f14 hW7
  obtain ⟨WF, hWF, hwF, hsF, HTF, HLF, bF⟩ := rec_out (r.with t1 t2 aL cL) _ rfl b17
  have hsFa := Nat.le_of_eq hsF
  have hsFb := Nat.le_of_eq hsF.symm
  clear hsF
  have hoF : (r.with t1 t2 aL cL).own WF w.heap.size WF.heap.size := ⟨OwnO.widen (OwnO.within hoA7 hwF (.inr (by omega))) (by omega) (by omega) (Nat.le_refl _), OwnO.widen (OwnO.within hoB7 hwF (.inr (by omega))) (by omega) (by omega) (Nat.le_refl _), (o7.within hwF (.inr (by omega))).widen (by omega) (by omega) (Nat.le_refl _), HAP.out⟩
  have hbF : Below w.heap.size w WF := hB7.trans (hwF.below (by omega) (by omega))
  have HF : Hid (_ ∧ _ ∧ _) := ⟨HWV.out t1 t2 aL cL hv1.out hv2.out, hoF, hbF⟩
  have rT : W7.rangeAt w.heap.size 0 (r.with t1 t2 aL cL).cells := Box.range [] _ [] (by simpa using b07')
  clear hoF hbF bF hwF b07 b07' b17 hoA7 hoB7 o7 HAP HWC HWV
  generalize r.with t1 t2 aL cL = TT at *
  go_wp2_with (first | (guard_target = wpList _ _ _ (Oper.mk (some 16) _ _ _ _ _ :: _) _ _; refine wpList_load_mid rfl 59 (.tmp 1) rfl w.heap.size 0 rfl TT.cells _ rT Tryz.underlying59 rfl (rec_info _) ?_) | (guard_target = wpList _ _ _ (Oper.mk none (Op.store _ (Operand.tmp 2) _) _ _ _ _ :: _) _ _; refine wpList_store_mid rfl 59 (.tmp 2) (.tmp 16) rfl (w.heap.size + 1) 0 TT.cells.toArray rfl rfl HTF.out (rec_info _) (rec_one _) ?_) | fail)
  rw [hWF.out]
  exact bodyPost_ret (v := .agg TT.cells.toArray) (results_one Tryz.results41 rfl HLF.out) rfl ⟨TT, rfl, HF.out.1, HF.out.2.1, HF.out.2.2⟩
end Go.Proofs.YtbpdocjkhmiimabGreatDoor

/- Appending a record as a step of a region that draws its order. -/
namespace Go.Proofs.YtbpdocjkhmiimabGreatDoor
open Go.RowKit

theorem run_append_rec {w : World} (ty : TypeId) (lo hi : Nat) (a : Option Addr) (c : Nat) (rs : List RecA) (hown : OwnRs w lo hi a c rs)
    (b off : Nat) (sc : Nat) (q : RecA) (hr : w.rangeAt b off q.cells) (l u : Nat) (hq : q.own w l u) (hl : hi ≤ l) (hu : u ≤ w.heap.size)
    (hb : rs.length + 1 ≤ 68719476736) (hlo : lo ≤ hi) :
    ∃ a' c' w', (Builtin.append_ #[26, 26] ty #[.slice a rs.length c, .slice (some ⟨b, off, none⟩) 1 sc]).run Tryz.prog w = .ok (.slice a' (rs ++ [q]).length c') w' ∧ OwnRs w' lo w'.heap.size a' c' (rs ++ [q]) ∧ w.grownBy w' (Value.slice a rs.length c).ownBlock := by
  obtain ⟨i0, hi0, hz0, hz1, hz2⟩ := info_parts Tryz.infoRec
  have hqb := hq.blocks_lt
  have htop := hown.top
  obtain ⟨v', w', hrun, h1, h2, _, _⟩ := run_append_own_at (P := Tryz.prog) w lo 26 ty 59 i0 (.agg zeroR.cells.toArray) 15 200 Tryz.underlying26 hi0 hz0 hz1 hz2 rfl (by decide) _ _ _ hown.row ⟨b, off, none⟩ 1 sc q.cells (by rfl) (by
    intro j v hj
    rw [Addr_add]
    exact hr j v hj) (oneR q) (by simp only [maxLen]; omega) (by omega) (by omega)
  have e : cellsRs rs ++ q.cells = cellsRs (rs ++ [q]) := by rw [cellsRs_app, cellsRs_cons]; simp [cellsRs]
  have e2 : rs.length + 1 = (rs ++ [q]).length := by simp
  rw [e, e2] at h1
  have sh : ∃ a' c', v' = .slice a' (rs ++ [q]).length c' := by
    rcases h1.2 with ⟨rfl, h0⟩ | ⟨g, cap, cur, rfl, _⟩
    · simp at h0
    · exact ⟨_, _, rfl⟩
  obtain ⟨a', c', rfl⟩ := sh
  have hsz := h2.size
  have ht : Touch (Value.slice a rs.length c).ownBlock.toList w w' := Touch.of_grown h2 (fun k hk => Option.mem_toList.2 hk)
  have hrow := h1.lt
  have hold : ∀ r ∈ rs, r.own w' lo w'.heap.size := fun r hr => ((hown.each r hr).touch ht (fun k hk hk' => (List.nodup_append.1 hown.apart).2.2 k hk' k (List.mem_flatMap.2 ⟨r, hr, hk⟩) rfl)).widen (Nat.le_refl _) (by omega) (Nat.le_refl _)
  have hnew : q.own w' lo w'.heap.size := (hq.touch ht (fun k hk hk' => by have := hqb k hk; have := hown.blk k (Option.mem_toList.1 hk'); omega)).widen (by omega) (by omega) (Nat.le_refl _)
  refine ⟨a', c', w', hrun, ⟨h1, Nat.le_refl _, fun k hk => (hrow k hk).2, fun r hr => ?_, ?_⟩, h2⟩
  · rcases List.mem_append.1 hr with hr | hr
    · exact hold r hr
    · obtain rfl := List.mem_singleton.1 hr
      exact hnew
  · rw [List.flatMap_append, List.nodup_append, List.nodup_append]
    have hap := (List.nodup_append.1 hown.apart).2.1
    have hin : ∀ x ∈ rs.flatMap RecA.blocks, lo ≤ x ∧ x < hi := fun x hx => by
      obtain ⟨r, hr, hx⟩ := List.mem_flatMap.1 hx
      exact (hown.each r hr).blocks_lt x hx
    refine ⟨by cases (Value.slice a' (rs ++ [q]).length c').ownBlock <;> simp, ⟨hap, by simpa using hq.apart, fun x hx y hy e => ?_⟩, fun x hx y hy e => ?_⟩
    · have := hin x hx
      simp only [List.flatMap_cons, List.flatMap_nil, List.append_nil] at hy
      have := hqb y hy
      omega
    · have hx' := Option.mem_toList.1 hx
      subst e
      rcases List.mem_append.1 hy with hy | hy
      · obtain ⟨r, hr, hy⟩ := List.mem_flatMap.1 hy
        exact row_apart h1 (hold r hr) x hx' hy
      · simp only [List.flatMap_cons, List.flatMap_nil, List.append_nil] at hy
        exact row_apart h1 hnew x hx' hy

theorem step_append_rec {w : World} {ops : Array Oper} {o : Oper} {act : Act} {K : Act → World → Prop} {Q : Exit → Act → World → Prop} {E : Prop} (hgd : o.guard = none) (s x : Operand)
    (ho : o.op = .call { callee := .builtin .append, args := #[s, x], argTypes := #[26, 26] })
    (lo hi : Nat) (a : Option Addr) (c : Nat) (rs : List RecA) (hs : act.eval s = .slice a rs.length c) (hown : OwnRs w lo hi a c rs)
    (b off : Nat) (sc : Nat) (q : RecA) (hx : act.eval x = .slice (some ⟨b, off, none⟩) 1 sc) (hr : w.rangeAt b off q.cells) (l u : Nat) (hq : q.own w l u) (hl : hi ≤ l) (hu : u ≤ w.heap.size)
    (hb : rs.length + 1 ≤ 68719476736) (hlo : lo ≤ hi)
    (h : ∀ a' c' w', OwnRs w' lo w'.heap.size a' c' (rs ++ [q]) → w.grownBy w' (Value.slice a rs.length c).ownBlock → K (act.put o.dst (.slice a' (rs ++ [q]).length c')) w') :
    if Region.wanted o (yielded ops act.tmps) = true then Oper.wp Tryz.prog o act w K Q else E := by
  have hw : Region.wanted o (yielded ops act.tmps) = true := by simp [Region.wanted, hgd]
  rw [if_pos hw]
  obtain ⟨a', c', w', hrun, h2, h3⟩ := run_append_rec (w := w) o.type lo hi a c rs hown b off sc q hr l u hq hl hu hb hlo
  unfold Oper.wp
  simp [execOp, ho, resolve, invoke, builtin, hs, hx, hrun, Result.andThen]
  have := h a' c' w' h2 h3
  rw [List.length_append, List.length_singleton] at this
  exact this
end Go.Proofs.YtbpdocjkhmiimabGreatDoor

/- The walk of spec.l5Copy. -/
namespace Go.Proofs.YtbpdocjkhmiimabGreatDoor
open Go.RowKit
attribute [local go_sem ↓] Go.wp_at_zero Go.wp_at_succ

theorem lit_rec (q : RecA) : List.foldl (fun cs x => cs.setIfInBounds x.snd x.fst) (#[.int .i64 0, .int .i64 0, .int .i64 0, .int .i64 0, .int .i64 0, .bool false, .int .i64 0, .slice none 0 0, .slice none 0 0, .bool false, .int .i64 0, .slice none 0 0, .slice none 0 0, .int .i64 0, .slice none 0 0] : Array Value) q.cells.zipIdx = q.cells.toArray := by simp [RecA.cells, List.zipIdx]

set_option maxHeartbeats 4000000 in
set_option maxRecDepth 100000 in
theorem l5Copy_any (l : LogA) (w : World) (hr : l.reads w) (hl : l.short 1048576) (hcp : ∀ r ∈ l.recs, r.aL = none → r.cL = 0) :
    Calls Tryz.prog 22 #[.agg l.cells.toArray] w fun e w' => ∃ t : LogA, e = .returned (.agg t.cells.toArray) ∧ Hid (t.v = l.v) ∧ t.own w' w.heap.size w'.heap.size ∧ Below w.heap.size w w' := by
  obtain ⟨rs, s, a, c⟩ := l
  have hl2 := (LogA.short_wide hl).each
  have hl0 := hl.len
  simp only [LogA.reads, LogA.cells, LogA.own] at *
  obtain ⟨W, hW, b0, b1, b2, hbW, hsW⟩ := boxes3 w [.slice a rs.length c, .int .i64 s] [.slice none 0 0, .int .i64 0] [.slice none 0 0, .int .i64 s] 28 28 28
  have hs0 : w.heap.size + 1 + 1 < W.heap.size := by omega
  clear hsW
  have x0 := b0.cell 0 _ rfl
  have x1 := b0.cell 1 _ rfl
  have HC : Hid (∀ k, k < rs.length → ∃ b off, a = some ⟨b, off, none⟩ ∧ w.rangeAt b (off + k * 15) (rs.getD k zeroR).cells ∧ (rs.getD k zeroR).reads w ∧ (rs.getD k zeroR).short 1099511627776 ∧ ((rs.getD k zeroR).aL = none → (rs.getD k zeroR).cL = 0)) := fun k hk => by
    obtain ⟨b, off, ha, hc⟩ := hr (by intro e; rw [e] at hk; simp at hk)
    exact ⟨b, off, ha, (hc k hk).1, (hc k hk).2, hl2 _ (recD_mem rs k hk), hcp _ (recD_mem rs k hk)⟩
  have HI : Hid ((Tryz.prog.info? 59).map (·.size) = some 15) := by rw [Hid]; kernel_rfl
  clear hr hl hl2 hcp
  go_enter Tryz.func22, Tryz.ntmps22
  go_wp2_with fail
  rw [hW.out]
  clear hW x0 x1
  go_loopw [4] (fun i wr => ∃ (k : Nat) (ts : List RecA) (a' : Option Addr) (c' : Nat), k ≤ rs.length ∧ i = .int .i64 k ∧ Hid (Came rs ts k) ∧ Box wr (w.heap.size + 1 + 1) [.slice a' ts.length c', .int .i64 s] 28 ∧ Box wr w.heap.size [.slice a rs.length c, .int .i64 s] 28 ∧ Box wr (w.heap.size + 1) [.slice none 0 0, .int .i64 0] 28 ∧ OwnRs wr W.heap.size wr.heap.size a' c' ts ∧ Below w.heap.size w wr ∧ W.heap.size ≤ wr.heap.size)
    (fun i _ => rs.length - (intOf i).toNat)
  case atStart => exact ⟨0, [], none, 0, Nat.zero_le _, rfl, came_none rs, b2, b0, b1, ownRs_nil _ _ _ (Nat.le_refl _), hbW, Nat.le_refl _⟩
  case round =>
    obtain ⟨k, ts, a', c', hk, rfl, hc, k2, k0, k1, hown, hnx, hsz⟩ := hrel
    clear b0 b1 b2 hbW
    have x0 := k0.cell 0 _ rfl
    by_cases hlt : k < rs.length
    · obtain ⟨b, off, rfl, hcell, hrd, hsh, hnc⟩ := HC.out k hlt
      have hbB := rangeR_lt hcell
      have hnw := hnx.size
      have HR : Hid (∀ u, Below w.heap.size w u → u.rangeAt b (off + k * 15) (rs.getD k zeroR).cells) := fun u hu => rangeAt_below hcell hu hbB
      have HS : Hid (∀ q : RecA, q.v = (rs.getD k zeroR).v → Came rs (ts ++ [q]) (k + 1)) := fun q hq => hc.out.snoc hlt hq
      have HL : Hid (ts.length = k) := hc.out.1
      clear hcell HC
      generalize rs.getD k zeroR = z at *
      have e0 := k2.cell 0 _ rfl
      have HSS : Hid (∀ u, Below w.heap.size w u → Box u w.heap.size [.slice (some ⟨b, off, none⟩) rs.length c, .int .i64 s] 28 → u.rangeAt b (off + k * 15) z.cells ∧ u.cell? ⟨w.heap.size, 0, none⟩ = some (.slice (some ⟨b, off, none⟩) rs.length c)) := fun u h1 h2 => ⟨HR.out u h1, h2.cell 0 _ rfl⟩
      go_wp2_with fail
      refine wp_region_held_drew (S := fun w' => w'.rangeAt b (off + k * 15) z.cells ∧ w'.cell? ⟨w.heap.size, 0, none⟩ = some (.slice (some ⟨b, off, none⟩) rs.length c)) (by kernel_rfl) ?_ (fun hHeld => ?_)
      · exact HSS.out _ hnx.drew (k0.drewN 1)
      refine wpAnyH_take (i := 0) (v := .pointer (some ⟨w.heap.size + 1 + 1, 0, none⟩)) rfl (by kernel_rfl) (by kernel_rfl) (by kernel_rfl) (fun _ _ _ h => h) (Or.inl ⟨by rfl, ?_⟩) hHeld ?_
      · intro w' hSw
        go_simp <;> rfl
      try simp only [Act.put, List.getElem_toArray, List.getElem_cons_zero, List.setIfInBounds_toArray, List.set_cons_zero, List.set_cons_succ]
      refine wpAnyH_take (i := 2) (v := .pointer (some ⟨w.heap.size, 0, none⟩)) rfl (by kernel_rfl) (by kernel_rfl) (by kernel_rfl) (fun _ _ _ h => h) (Or.inl ⟨by rfl, ?_⟩) hHeld ?_
      · intro w' hSw
        go_simp <;> rfl
      try simp only [Act.put, List.getElem_toArray, List.getElem_cons_zero, List.getElem_cons_succ, List.setIfInBounds_toArray, List.set_cons_zero, List.set_cons_succ]
      refine wpAnyH_take (i := 3) (v := .slice (some ⟨b, off, none⟩) rs.length c) rfl (by kernel_rfl) (by kernel_rfl) (by kernel_rfl) (fun _ _ _ h => h) (Or.inl ⟨by rfl, ?_⟩) hHeld ?_
      · intro w' hSw
        have hx := hSw.2
        go_simp <;> rfl
      try simp only [Act.put, List.getElem_toArray, List.getElem_cons_zero, List.getElem_cons_succ, List.setIfInBounds_toArray, List.set_cons_zero, List.set_cons_succ]
      refine wpAnyH_take (i := 4) (v := .int .i64 k) rfl (by kernel_rfl) (by kernel_rfl) (by kernel_rfl) (fun _ _ _ h => h) (Or.inl ⟨by rfl, ?_⟩) hHeld ?_
      · intro w' hSw
        go_simp <;> rfl
      try simp only [Act.put, List.getElem_toArray, List.getElem_cons_zero, List.getElem_cons_succ, List.setIfInBounds_toArray, List.set_cons_zero, List.set_cons_succ]
      refine wpAnyH_take (i := 5) (v := .pointer (some ⟨b, off + k * 15, none⟩)) rfl (by kernel_rfl) (by kernel_rfl) (by kernel_rfl) (fun _ _ _ h => h) (Or.inl ⟨by rfl, ?_⟩) hHeld ?_
      · intro w' hSw
        go_simp <;> rfl
      try simp only [Act.put, List.getElem_toArray, List.getElem_cons_zero, List.getElem_cons_succ, List.setIfInBounds_toArray, List.set_cons_zero, List.set_cons_succ]
      refine wpAnyH_take (i := 6) rfl (by kernel_rfl) (by kernel_rfl) (by kernel_rfl) (fun _ _ _ h => h) (yieldsIf_load_mid (by rfl) _ _ rfl _ _ rfl z.cells _ (fun _ h => h.1) Tryz.underlying59 rfl HI.out) hHeld ?_
      try simp only [Act.put, List.getElem_toArray, List.getElem_cons_zero, List.getElem_cons_succ, List.setIfInBounds_toArray, List.set_cons_zero, List.set_cons_succ]
      have hnd : Below wr.heap.size wr wr.drew := (Below.refl _ _).drew
      have C := l5CopyRec_own z wr.drew (hrd.below hnx.drew) hsh hnc
      refine wpAnyH_ready (rs := [1, 7]) (by kernel_rfl) (by simp) ?_
      refine AllReadyH.cons rfl (fun K hK => ?_) (AllReadyH.cons rfl (fun K hK => ?_) AllReadyH.nil)
      · go_simp
        refine hK.out _ _ (hHeld) (fun hHeld => ?_)
        clear hK K
        try simp only [Act.put, List.getElem_toArray, List.getElem_cons_zero, List.getElem_cons_succ, List.setIfInBounds_toArray, List.set_cons_zero, List.set_cons_succ]
        refine wpAnyH_ready (rs := [7]) (by kernel_rfl) (by simp) ?_
        refine AllReadyH.cons rfl (fun K hK => ?_) AllReadyH.nil
        go_simp
        refine C.mono ?_
        clear C
        rintro e u2 ⟨q, rfl, hq, hqo, hb2⟩
        have hb2' : Below wr.heap.size wr u2 := hnd.trans hb2
        have hn2 : Below w.heap.size w u2 := hnx.trans (hb2'.mono hnw)
        have k22 := k2.below hb2' k2.lt
        have k02 := k0.below hb2' k0.lt
        have k12 := k1.below hb2' k1.lt
        have o2 := hown.below hb2'
        have hqo2 : q.own u2 wr.heap.size u2.heap.size := hqo
        have hs2 := hb2'.size
        refine hK.out _ _ (HSS.out _ hn2 k02) (fun hHeld => ?_)
        clear hK K
        try simp only [Act.put, List.getElem_toArray, List.getElem_cons_zero, List.getElem_cons_succ, List.setIfInBounds_toArray, List.set_cons_zero, List.set_cons_succ]
        refine wpAnyH_ready (rs := [8]) (by kernel_rfl) (by simp) ?_
        refine AllReadyH.cons rfl (fun K hK => ?_) AllReadyH.nil
        go_simp
        simp only [cellsR_len, lit_rec, not_true_eq_false, Nat.lt_irrefl, or_self, if_false]
        go_simp
        obtain ⟨W3, hW3, b3, hb3, hs3⟩ := boxes1 u2 q.cells 59
        rw [hW3.out]
        have hn3 : Below w.heap.size w W3 := hn2.trans (hb3.mono hn2.size)
        have k23 := k22.below hb3 k22.lt
        have k03 := k02.below hb3 k02.lt
        have k13 := k12.below hb3 k12.lt
        have o3 := o2.below hb3
        have hqo3 := hqo2.below hb3
        have r3 : W3.rangeAt u2.heap.size 0 q.cells := Box.range [] q.cells [] (by simpa using b3)
        have hs3' := b3.lt
        clear hs3 hb3 hW3 b3 k02 k12 o2 hqo2
        refine hK.out _ _ (HSS.out _ hn3 k03) (fun hHeld => ?_)
        clear hK K
        try simp only [Act.put, List.getElem_toArray, List.getElem_cons_zero, List.getElem_cons_succ, List.setIfInBounds_toArray, List.set_cons_zero, List.set_cons_succ]
        have hll : ts.length + 1 ≤ 68719476736 := by have := HL.out; omega
        refine wpAnyH_ready (rs := [9]) (by kernel_rfl) (by simp) ?_
        refine AllReadyH.cons rfl (fun K hK => ?_) AllReadyH.nil
        refine step_append_rec rfl (.tmp 16) (.tmp 23) rfl W.heap.size wr.heap.size a' c' ts rfl o3 u2.heap.size 0 1 q rfl r3 wr.heap.size u2.heap.size hqo3 (Nat.le_refl _) (by omega) hll hsz ?_
        intro a9 c9 w9 o9 g9
        have HCM := HS.out q hq.out
        obtain ⟨ys, hys⟩ : ∃ ys, Hid (ts ++ [q] = ys) := ⟨_, rfl⟩
        rw [hys.out] at o9 HCM ⊢
        have hw9 : Within W.heap.size wr.heap.size W3 w9 := Within.of_grown g9 (fun j hj => ⟨(o3.row.lt j hj).1, o3.blk j hj⟩)
        have hs9 := hw9.size
        have hn9 : Below w.heap.size w w9 := hn3.trans (hw9.below (by omega) (by omega))
        have k29 := k23.within hw9 (by omega)
        have k09 := k03.within hw9 (by omega)
        have k19 := k13.within hw9 (by omega)
        refine hK.out _ _ (HSS.out _ hn9 k09) (fun hHeld => ?_)
        clear hK K hw9 g9 o3 r3 hqo3 k23 k03 k13
        try simp only [Act.put, List.getElem_toArray, List.getElem_cons_zero, List.getElem_cons_succ, List.setIfInBounds_toArray, List.set_cons_zero, List.set_cons_succ]
        refine wpAnyH_take (i := 10) (v := .pointer (some ⟨w.heap.size + 1 + 1, 0, none⟩)) rfl (by kernel_rfl) (by kernel_rfl) (by kernel_rfl) (fun _ _ _ h => h) (Or.inl ⟨by rfl, ?_⟩) hHeld ?_
        · intro w' hSw
          go_simp <;> rfl
        try simp only [Act.put, List.getElem_toArray, List.getElem_cons_zero, List.getElem_cons_succ, List.setIfInBounds_toArray, List.set_cons_zero, List.set_cons_succ]
        have m0 := k29.cell 0 _ rfl
        have mf0 := k29.frozen 0
        obtain ⟨WF, hWF, kF, hwF, hsF⟩ := box_set k29 0 (.slice a9 ys.length c9)
        simp only [List.set] at kF
        have hsFa := Nat.le_of_eq hsF
        have hsFb := Nat.le_of_eq hsF.symm
        clear hsF
        have k0F := k09.within hwF (by omega)
        have k1F := k19.within hwF (by omega)
        have oF := (o9.within hwF (.inr (by omega))).widen (Nat.le_refl _) hsFb (Nat.le_refl _)
        have hnF : Below w.heap.size w WF := hn9.trans (hwF.below (by omega) (by omega))
        clear hwF k29 k09 k19 o9
        refine wpAnyH_ready (rs := [11]) (by kernel_rfl) (by simp) ?_
        refine AllReadyH.cons rfl (fun K hK => ?_) AllReadyH.nil
        go_simp
        rw [hWF.out]
        refine hK.out _ _ (HSS.out _ hnF k0F) (fun hHeld => ?_)
        clear hK K
        try simp only [Act.put, List.getElem_toArray, List.getElem_cons_zero, List.getElem_cons_succ, List.setIfInBounds_toArray, List.set_cons_zero, List.set_cons_succ]
        refine wpAnyH_done (by kernel_rfl) ?_ _
        clear m0 mf0 hWF
        go_wp2_with fail
        go_roundw
        case rel => exact ⟨k + 1, ys, a9, c9, by omega, by go_num, HCM, kF, k0F, k1F, oF, hnF, by omega⟩
        case measure => simp [intOf]; omega
      · go_simp
        refine C.mono ?_
        clear C
        rintro e u2 ⟨q, rfl, hq, hqo, hb2⟩
        have hb2' : Below wr.heap.size wr u2 := hnd.trans hb2
        have hn2 : Below w.heap.size w u2 := hnx.trans (hb2'.mono hnw)
        have k22 := k2.below hb2' k2.lt
        have k02 := k0.below hb2' k0.lt
        have k12 := k1.below hb2' k1.lt
        have o2 := hown.below hb2'
        have hqo2 : q.own u2 wr.heap.size u2.heap.size := hqo
        have hs2 := hb2'.size
        refine hK.out _ _ (HSS.out _ hn2 k02) (fun hHeld => ?_)
        clear hK K
        try simp only [Act.put, List.getElem_toArray, List.getElem_cons_zero, List.getElem_cons_succ, List.setIfInBounds_toArray, List.set_cons_zero, List.set_cons_succ]
        refine wpAnyH_ready (rs := [1, 8]) (by kernel_rfl) (by simp) ?_
        refine AllReadyH.cons rfl (fun K hK => ?_) (AllReadyH.cons rfl (fun K hK => ?_) AllReadyH.nil)
        · have d0 := k22.cell 0 _ rfl
          go_simp
          refine hK.out _ _ (hHeld) (fun hHeld => ?_)
          clear hK K
          try simp only [Act.put, List.getElem_toArray, List.getElem_cons_zero, List.getElem_cons_succ, List.setIfInBounds_toArray, List.set_cons_zero, List.set_cons_succ]
          refine wpAnyH_ready (rs := [8]) (by kernel_rfl) (by simp) ?_
          refine AllReadyH.cons rfl (fun K hK => ?_) AllReadyH.nil
          go_simp
          simp only [cellsR_len, lit_rec, not_true_eq_false, Nat.lt_irrefl, or_self, if_false]
          go_simp
          obtain ⟨W3, hW3, b3, hb3, hs3⟩ := boxes1 u2 q.cells 59
          rw [hW3.out]
          have hn3 : Below w.heap.size w W3 := hn2.trans (hb3.mono hn2.size)
          have k23 := k22.below hb3 k22.lt
          have k03 := k02.below hb3 k02.lt
          have k13 := k12.below hb3 k12.lt
          have o3 := o2.below hb3
          have hqo3 := hqo2.below hb3
          have r3 : W3.rangeAt u2.heap.size 0 q.cells := Box.range [] q.cells [] (by simpa using b3)
          have hs3' := b3.lt
          clear hs3 hb3 hW3 b3 k02 k12 o2 hqo2
          refine hK.out _ _ (HSS.out _ hn3 k03) (fun hHeld => ?_)
          clear hK K
          try simp only [Act.put, List.getElem_toArray, List.getElem_cons_zero, List.getElem_cons_succ, List.setIfInBounds_toArray, List.set_cons_zero, List.set_cons_succ]
          have hll : ts.length + 1 ≤ 68719476736 := by have := HL.out; omega
          refine wpAnyH_ready (rs := [9]) (by kernel_rfl) (by simp) ?_
          refine AllReadyH.cons rfl (fun K hK => ?_) AllReadyH.nil
          refine step_append_rec rfl (.tmp 16) (.tmp 23) rfl W.heap.size wr.heap.size a' c' ts rfl o3 u2.heap.size 0 1 q rfl r3 wr.heap.size u2.heap.size hqo3 (Nat.le_refl _) (by omega) hll hsz ?_
          intro a9 c9 w9 o9 g9
          have HCM := HS.out q hq.out
          obtain ⟨ys, hys⟩ : ∃ ys, Hid (ts ++ [q] = ys) := ⟨_, rfl⟩
          rw [hys.out] at o9 HCM ⊢
          have hw9 : Within W.heap.size wr.heap.size W3 w9 := Within.of_grown g9 (fun j hj => ⟨(o3.row.lt j hj).1, o3.blk j hj⟩)
          have hs9 := hw9.size
          have hn9 : Below w.heap.size w w9 := hn3.trans (hw9.below (by omega) (by omega))
          have k29 := k23.within hw9 (by omega)
          have k09 := k03.within hw9 (by omega)
          have k19 := k13.within hw9 (by omega)
          refine hK.out _ _ (HSS.out _ hn9 k09) (fun hHeld => ?_)
          clear hK K hw9 g9 o3 r3 hqo3 k23 k03 k13
          try simp only [Act.put, List.getElem_toArray, List.getElem_cons_zero, List.getElem_cons_succ, List.setIfInBounds_toArray, List.set_cons_zero, List.set_cons_succ]
          refine wpAnyH_take (i := 10) (v := .pointer (some ⟨w.heap.size + 1 + 1, 0, none⟩)) rfl (by kernel_rfl) (by kernel_rfl) (by kernel_rfl) (fun _ _ _ h => h) (Or.inl ⟨by rfl, ?_⟩) hHeld ?_
          · intro w' hSw
            go_simp <;> rfl
          try simp only [Act.put, List.getElem_toArray, List.getElem_cons_zero, List.getElem_cons_succ, List.setIfInBounds_toArray, List.set_cons_zero, List.set_cons_succ]
          have m0 := k29.cell 0 _ rfl
          have mf0 := k29.frozen 0
          obtain ⟨WF, hWF, kF, hwF, hsF⟩ := box_set k29 0 (.slice a9 ys.length c9)
          simp only [List.set] at kF
          have hsFa := Nat.le_of_eq hsF
          have hsFb := Nat.le_of_eq hsF.symm
          clear hsF
          have k0F := k09.within hwF (by omega)
          have k1F := k19.within hwF (by omega)
          have oF := (o9.within hwF (.inr (by omega))).widen (Nat.le_refl _) hsFb (Nat.le_refl _)
          have hnF : Below w.heap.size w WF := hn9.trans (hwF.below (by omega) (by omega))
          clear hwF k29 k09 k19 o9
          refine wpAnyH_ready (rs := [11]) (by kernel_rfl) (by simp) ?_
          refine AllReadyH.cons rfl (fun K hK => ?_) AllReadyH.nil
          go_simp
          rw [hWF.out]
          refine hK.out _ _ (HSS.out _ hnF k0F) (fun hHeld => ?_)
          clear hK K
          try simp only [Act.put, List.getElem_toArray, List.getElem_cons_zero, List.getElem_cons_succ, List.setIfInBounds_toArray, List.set_cons_zero, List.set_cons_succ]
          refine wpAnyH_done (by kernel_rfl) ?_ _
          clear m0 mf0 hWF
          go_wp2_with fail
          go_roundw
          case rel => exact ⟨k + 1, ys, a9, c9, by omega, by go_num, HCM, kF, k0F, k1F, oF, hnF, by omega⟩
          case measure => simp [intOf]; omega
        · go_simp
          simp only [cellsR_len, lit_rec, not_true_eq_false, Nat.lt_irrefl, or_self, if_false]
          go_simp
          obtain ⟨W3, hW3, b3, hb3, hs3⟩ := boxes1 u2 q.cells 59
          rw [hW3.out]
          have hn3 : Below w.heap.size w W3 := hn2.trans (hb3.mono hn2.size)
          have k23 := k22.below hb3 k22.lt
          have k03 := k02.below hb3 k02.lt
          have k13 := k12.below hb3 k12.lt
          have o3 := o2.below hb3
          have hqo3 := hqo2.below hb3
          have r3 : W3.rangeAt u2.heap.size 0 q.cells := Box.range [] q.cells [] (by simpa using b3)
          have hs3' := b3.lt
          clear hs3 hb3 hW3 b3 k02 k12 o2 hqo2
          refine hK.out _ _ (HSS.out _ hn3 k03) (fun hHeld => ?_)
          clear hK K
          try simp only [Act.put, List.getElem_toArray, List.getElem_cons_zero, List.getElem_cons_succ, List.setIfInBounds_toArray, List.set_cons_zero, List.set_cons_succ]
          have d0 := k23.cell 0 _ rfl
          refine wpAnyH_ready (rs := [1]) (by kernel_rfl) (by simp) ?_
          refine AllReadyH.cons rfl (fun K hK => ?_) AllReadyH.nil
          go_simp
          refine hK.out _ _ (hHeld) (fun hHeld => ?_)
          clear hK K
          try simp only [Act.put, List.getElem_toArray, List.getElem_cons_zero, List.getElem_cons_succ, List.setIfInBounds_toArray, List.set_cons_zero, List.set_cons_succ]
          have hll : ts.length + 1 ≤ 68719476736 := by have := HL.out; omega
          refine wpAnyH_ready (rs := [9]) (by kernel_rfl) (by simp) ?_
          refine AllReadyH.cons rfl (fun K hK => ?_) AllReadyH.nil
          refine step_append_rec rfl (.tmp 16) (.tmp 23) rfl W.heap.size wr.heap.size a' c' ts rfl o3 u2.heap.size 0 1 q rfl r3 wr.heap.size u2.heap.size hqo3 (Nat.le_refl _) (by omega) hll hsz ?_
          intro a9 c9 w9 o9 g9
          have HCM := HS.out q hq.out
          obtain ⟨ys, hys⟩ : ∃ ys, Hid (ts ++ [q] = ys) := ⟨_, rfl⟩
          rw [hys.out] at o9 HCM ⊢
          have hw9 : Within W.heap.size wr.heap.size W3 w9 := Within.of_grown g9 (fun j hj => ⟨(o3.row.lt j hj).1, o3.blk j hj⟩)
          have hs9 := hw9.size
          have hn9 : Below w.heap.size w w9 := hn3.trans (hw9.below (by omega) (by omega))
          have k29 := k23.within hw9 (by omega)
          have k09 := k03.within hw9 (by omega)
          have k19 := k13.within hw9 (by omega)
          refine hK.out _ _ (HSS.out _ hn9 k09) (fun hHeld => ?_)
          clear hK K hw9 g9 o3 r3 hqo3 k23 k03 k13
          try simp only [Act.put, List.getElem_toArray, List.getElem_cons_zero, List.getElem_cons_succ, List.setIfInBounds_toArray, List.set_cons_zero, List.set_cons_succ]
          refine wpAnyH_take (i := 10) (v := .pointer (some ⟨w.heap.size + 1 + 1, 0, none⟩)) rfl (by kernel_rfl) (by kernel_rfl) (by kernel_rfl) (fun _ _ _ h => h) (Or.inl ⟨by rfl, ?_⟩) hHeld ?_
          · intro w' hSw
            go_simp <;> rfl
          try simp only [Act.put, List.getElem_toArray, List.getElem_cons_zero, List.getElem_cons_succ, List.setIfInBounds_toArray, List.set_cons_zero, List.set_cons_succ]
          have m0 := k29.cell 0 _ rfl
          have mf0 := k29.frozen 0
          obtain ⟨WF, hWF, kF, hwF, hsF⟩ := box_set k29 0 (.slice a9 ys.length c9)
          simp only [List.set] at kF
          have hsFa := Nat.le_of_eq hsF
          have hsFb := Nat.le_of_eq hsF.symm
          clear hsF
          have k0F := k09.within hwF (by omega)
          have k1F := k19.within hwF (by omega)
          have oF := (o9.within hwF (.inr (by omega))).widen (Nat.le_refl _) hsFb (Nat.le_refl _)
          have hnF : Below w.heap.size w WF := hn9.trans (hwF.below (by omega) (by omega))
          clear hwF k29 k09 k19 o9
          refine wpAnyH_ready (rs := [11]) (by kernel_rfl) (by simp) ?_
          refine AllReadyH.cons rfl (fun K hK => ?_) AllReadyH.nil
          go_simp
          rw [hWF.out]
          refine hK.out _ _ (HSS.out _ hnF k0F) (fun hHeld => ?_)
          clear hK K
          try simp only [Act.put, List.getElem_toArray, List.getElem_cons_zero, List.getElem_cons_succ, List.setIfInBounds_toArray, List.set_cons_zero, List.set_cons_succ]
          refine wpAnyH_done (by kernel_rfl) ?_ _
          clear m0 mf0 hWF
          go_wp2_with fail
          go_roundw
          case rel => exact ⟨k + 1, ys, a9, c9, by omega, by go_num, HCM, kF, k0F, k1F, oF, hnF, by omega⟩
          case measure => simp [intOf]; omega
    · have HE : Hid (ts.map RecA.v = rs.map RecA.v) := by
        have e : k = rs.length := by omega
        rw [e] at hc
        exact hc.out.all
      have e0 := k2.cell 0 _ rfl
      have e1 := k2.cell 1 _ rfl
      have m0 := k1.cell 0 _ rfl
      have m1 := k1.cell 1 _ rfl
      have mf0 := k1.frozen 0
      have mf1 := k1.frozen 1
      obtain ⟨WF, hWF, bF, hwF, hsF⟩ := box2_fill k1 (.slice a' ts.length c') (.int .i64 s)
      have q0 := bF.cell 0 _ rfl
      have q1 := bF.cell 1 _ rfl
      have hoF := (hown.within hwF (.inr (by omega))).widen (show w.heap.size ≤ W.heap.size by omega) (show wr.heap.size ≤ WF.heap.size by omega) (Nat.le_refl _)
      have hbF : Below w.heap.size w WF := hnx.trans (hwF.below (by omega) (by have := hnx.size; omega))
      clear hwF hsF bF
      go_wp2
      rw [hWF.out]
      exact bodyPost_ret (v := .agg #[.slice a' ts.length c', .int .i64 s]) (by simp [results, Tryz.results22, go_sem, q0, q1]) rfl ⟨⟨ts, s, a', c'⟩, rfl, by simp only [Hid, LogA.v]; rw [HE.out], hoF, hbF⟩
end Go.Proofs.YtbpdocjkhmiimabGreatDoor
