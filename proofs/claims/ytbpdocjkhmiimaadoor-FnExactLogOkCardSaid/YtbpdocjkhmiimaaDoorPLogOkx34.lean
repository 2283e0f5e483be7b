/- Several texts in one, in their order. -/
import Derived.Test.YtbpdocjkhmiimaaDoorPLogOkx31
import Derived.Test.YtbpdocjkhmiimaaDoorPLogOkx21
import Derived.Test.YtbpdocjkhmiimaaDoorPLogOkx33
import Derived.Test.YtbpdocjkhmiimaaDoorPLogOkx25
import Derived.Test.YtbpdocjkhmiimaaDoorPLogOkx30
/- The walk of spec.LogOk. -/
namespace Go.Proofs.YtbpdocjkhmiimaaDoor
open Go.RowKit

/-- A whole value loaded where a guard stands ahead of it that lets it by. -/
theorem load_if {ops : Array Oper} {rest : List Oper} {op : Oper} {a : Act} {w : World} {Q : Exit → Act → World → Prop} {P : Program} (hw : Region.wanted op (yielded ops a.tmps) = true) (ty : TypeId) (x : Operand) (ho : op.op = .load ty x)
    (b o : Nat) (hx : a.eval x = .pointer (some ⟨b, o, none⟩)) (cs : List Value) (d : TypeDesc) (hc : w.rangeAt b o cs)
    (hu : P.underlying ty = some d) (hd : d.isRow = true) (hi : (P.info? ty).map (·.size) = some cs.length)
    (h : wpList P ops Q rest (a.put op.dst (.agg cs.toArray)) w) : wpList P ops Q (op :: rest) a w :=
  wpList_step fun _ hK => by
    simp only [hw, if_true]
    exact wp_load_mid ty x ho b o hx cs d hc hu hd hi (hK _ _ h)

set_option maxHeartbeats 4000000 in
set_option maxRecDepth 100000 in
theorem specLogOk_any (l : LogA) (w : World) (hr : l.reads w) (hl : l.short 1099511627776) :
    Calls Tryd.prog 5 #[.agg l.cells.toArray] w fun e w' => e = .returned (.bool (okLog l.v)) ∧ Below w.heap.size w w' := by
  have HLEN : Hid (¬ l.recs.length ≤ 4000 → okLog l.v = false) := fun h => okLog_len (by rw [l.v_len]; exact h)
  have HSURE : Hid (inB l.sure 0 l.recs.length = false → okLog l.v = false) := fun h => okLog_sure (by rw [l.v_len]; exact h)
  have HNO : Hid (∀ k, k < l.recs.length → (((l.recs.getD k zeroR).lsn == (k + 1 : Int)) && okR (l.recs.getD k zeroR).v) = false → okLog l.v = false) := fun k hk h => okLog_no k (by rw [l.v_len]; exact hk) (by rw [okAt_v]; exact h)
  have HALL : Hid (l.recs.length ≤ 4000 → inB l.sure 0 l.recs.length = true → (∀ k, k < l.recs.length → (((l.recs.getD k zeroR).lsn == (k + 1 : Int)) && okR (l.recs.getD k zeroR).v) = true) → okLog l.v = true) := fun h0 h1 h => okLog_all (by rw [l.v_len]; exact h0) (by rw [l.v_len]; exact h1) (fun k hk => by rw [okAt_v]; exact h k (by rw [l.v_len] at hk; exact hk))
  generalize okLog l.v = R at *
  have HS : Hid (∀ k, k < l.recs.length → (l.recs.getD k zeroR).short 1099511627776) := fun k hk => hl.at k hk
  have hlen := hl.len
  obtain ⟨rs, s, a, c⟩ := l
  simp only [LogA.reads, LogA.cells] at *
  obtain ⟨W, hW, b0, hbW, hsW⟩ := boxes1 w [.slice a rs.length c, .int .i64 s] 29
  have c0 := b0.cell 0 _ rfl
  have c1 := b0.cell 1 _ rfl
  clear hl hsW
  have HC : Hid (∀ k, k < rs.length → ∃ b off, a = some ⟨b, off, none⟩ ∧ W.rangeAt b (off + k * 15) (rs.getD k zeroR).cells ∧ (rs.getD k zeroR).reads W) := fun k hk => by
    obtain ⟨b, off, ha, hc⟩ := (ReadsRs.below hr hbW) (by intro e; rw [e] at hk; simp at hk)
    exact ⟨b, off, ha, hc k hk⟩
  have HI : Hid ((Tryd.prog.info? 42).map (·.size) = some 15) := by rw [Hid]; kernel_rfl
  clear hr
  by_cases h4 : rs.length ≤ 4000
  case neg =>
    have HR : Hid (R = false) := HLEN.out h4
    clear HLEN HSURE HNO HALL
    go_enter Tryd.func5, Tryd.ntmps5
    go_wp2_with fail
    rw [hW.out]
    go_ret
    exact ⟨ret_bool HR.out.symm, hbW⟩
  case pos =>
    cases h5 : inB s 0 rs.length with
    | false =>
      have HR : Hid (R = false) := HSURE.out h5
      clear HLEN HSURE HNO HALL
      go_enter Tryd.func5, Tryd.ntmps5
      go_wp2_with fail
      rw [hW.out]
      refine (l1In_any _ _ _ W).mono ?_
      rintro e u ⟨rfl, hu⟩
      rw [hu]
      clear hu u
      go_wp2
      go_ret
      exact ⟨ret_bool HR.out.symm, hbW⟩
    | true =>
      go_enter Tryd.func5, Tryd.ntmps5
      go_wp2_with fail
      rw [hW.out]
      refine (l1In_any _ _ _ W).mono ?_
      rintro e u ⟨rfl, hu⟩
      rw [hu]
      clear hu u hW
      go_wp2_with fail
      go_loopw [3] (fun i wr => ∃ k : Nat, k ≤ rs.length ∧ i = .int .i64 k ∧ Hid (∀ j, j < k → (((rs.getD j zeroR).lsn == (j + 1 : Int)) && okR (rs.getD j zeroR).v) = true) ∧ Below W.heap.size W wr) (fun i _ => rs.length - (intOf i).toNat)
      case atStart => exact ⟨0, Nat.zero_le _, rfl, fun j hj => by omega, Below.refl _ _⟩
      case round =>
        obtain ⟨k, hk, rfl, hall, hbl⟩ := hrel
        have hbm : Below w.heap.size w wr := hbW.trans (hbl.mono hbW.size)
        have r0 := (hbl.cell (block_lt c0)).trans c0
        clear c0 c1
        by_cases hlt : k < rs.length
        · obtain ⟨b, off, rfl, hcell, hrd⟩ := HC.out k hlt
          have HR : Hid (wr.rangeAt b (off + k * 15) (rs.getD k zeroR).cells) := range_below hcell hbl
          have x0 : wr.cell? ⟨b, off + k * 15, none⟩ = some (.int .i64 (rs.getD k zeroR).lsn) := HR.out 0 _ rfl
          have C := specRecOk_any (rs.getD k zeroR) wr (hrd.below hbl) (HS.out k hlt)
          have HN : Hid ((((rs.getD k zeroR).lsn == (k + 1 : Int)) && okR (rs.getD k zeroR).v) = false → R = false) := HNO.out k hlt
          have HY : Hid ((((rs.getD k zeroR).lsn == (k + 1 : Int)) && okR (rs.getD k zeroR).v) = true → ∀ j, j < k + 1 → (((rs.getD j zeroR).lsn == (j + 1 : Int)) && okR (rs.getD j zeroR).v) = true) := fun h j hj => by
            by_cases e : j = k
            · rw [e]; exact h
            · exact hall.out j (by omega)
          clear hcell HC HLEN HSURE HNO HALL hall HS hrd
          generalize rs.getD k zeroR = y at *
          cases h6 : (y.lsn == (k + 1 : Int)) with
          | false =>
            have HR2 : Hid (R = false) := HN.out (by rw [h6]; rfl)
            have h6b : (y.lsn != (k : Int) + 1) = true := by simp only [bne, h6, Bool.not_false]
            clear h6
            clear HN HY C
            go_wp2_with fail
            go_ret
            exact ⟨ret_bool HR2.out.symm, hbm⟩
          | true =>
            rw [h6, Bool.true_and] at HN HY
            have h6b : (y.lsn != (k : Int) + 1) = false := by simp only [bne, h6, Bool.not_true]
            clear h6
            cases h7 : okR y.v with
            | false =>
              have HR2 : Hid (R = false) := HN.out h7
              clear HN HY
              rw [h7] at C
              go_wp2_with (first | (guard_target = wpList _ _ _ (Oper.mk (some 38) _ _ _ _ _ :: _) _ _; refine load_if (by rfl) 42 (.tmp 37) rfl b (off + k * 15) rfl y.cells _ HR.out Tryd.underlying42 rfl HI.out ?_) | fail)
              refine C.mono ?_
              rintro e w1 ⟨rfl, hb1⟩
              go_wp2_with fail
              go_ret
              exact ⟨ret_bool HR2.out.symm, hbm.trans (hb1.mono hbm.size)⟩
            | true =>
              have HY2 := HY.out h7
              clear HN HY
              rw [h7] at C
              go_wp2_with (first | (guard_target = wpList _ _ _ (Oper.mk (some 38) _ _ _ _ _ :: _) _ _; refine load_if (by rfl) 42 (.tmp 37) rfl b (off + k * 15) rfl y.cells _ HR.out Tryd.underlying42 rfl HI.out ?_) | fail)
              refine C.mono ?_
              rintro e w1 ⟨rfl, hb1⟩
              clear C
              have hb2 : Below W.heap.size W w1 := hbl.trans (hb1.mono hbl.size)
              go_wp2_with fail
              go_roundw
              case rel => exact ⟨k + 1, by omega, by go_num, HY2, hb2⟩
              case measure => simp [intOf]; omega
        · have HR : Hid (R = true) := HALL.out h4 h5 (fun j hj => hall.out j (by omega))
          clear HLEN HSURE HNO HALL
          go_wp2
          go_ret
          exact ⟨ret_bool HR.out.symm, hbm⟩
end Go.Proofs.YtbpdocjkhmiimaaDoor

/- What came in, read: a log. -/
namespace Go.Proofs.YtbpdocjkhmiimaaDoor
open Go.ChangeShapes Go.WideShapes Go.ChangeAt Go.RowKit

/-- A log as it came in. -/
structure InLog (w : World) (l : LogA) : Prop where
  recs : ReadsRs w l.a l.recs
  each : ∀ r ∈ l.recs, InRec w r
  len : l.recs.length ≤ maxLen
  num : InI64 l.sure
theorem InLog.short {w : World} {l : LogA} (h : InLog w l) : l.short 9223372036854775807 := ⟨by have := h.len; simp only [maxLen] at this; omega, fun r hr => (h.each r hr).short⟩

section
variable {H : Type} {enc : TypeId × Value → H} {w : World} {base : Nat} {spare : Nat → Bool} {held : Bool}

theorem Tryd.cellsRcs : Tryd.prog.cellsOf 22 = 1 := by kernel_rfl
theorem Tryd.cellsLg : Tryd.prog.cellsOf 24 = 2 := by kernel_rfl

set_option maxRecDepth 100000 in
theorem trod_recs {fuel : Nat} {cs : List Value} {x : DataW H × List MemPlace} (h : DataW.trod enc Tryd.prog w base spare held fuel 22 cs = some x) :
    ∃ (a : Option Addr) (c : Nat) (rs : List RecA), cs = [.slice a rs.length c] ∧ ReadsRs w a rs ∧ (∀ r ∈ rs, InRec w r) ∧ rs.length ≤ maxLen := by
  rcases DataW.trod_slice Tryd.underlying22 h with ⟨rfl, _⟩ | ⟨a, len, cap, elems, rest, n, _, rfl, _, _, hl, hm, hlen, hel, _, _⟩
  · exact ⟨none, 0, [], rfl, ReadsRs.nil _ _, fun r hr => by simp at hr, by simp⟩
  rw [Tryd.cellsRc] at hel
  have each : ∀ i, i < len → ∃ t : RecA, w.cells? base (a.add (i * 15)) 15 = some t.cells ∧ InRec w t := by
    intro i hi
    have hy := hel i hi
    rw [List.getElem?_eq_getElem (by omega : i < elems.length), Option.bind_eq_some_iff] at hy
    obtain ⟨cs', hcs, hy'⟩ := hy
    obtain ⟨t, e, ht⟩ := trod_rec hy'
    exact ⟨t, by rw [hcs, e], ht⟩
  obtain ⟨f, hf⟩ : ∃ f : Nat → RecA, ∀ i, i < len → w.cells? base (a.add (i * 15)) 15 = some (f i).cells ∧ InRec w (f i) := by
    refine ⟨fun i => if h : i < len then (each i h).choose else zeroR, fun i hi => ?_⟩
    simp only [dif_pos hi]
    exact (each i hi).choose_spec
  refine ⟨some a, cap, (List.range len).map f, by simp, ?_, ?_, by simp; omega⟩
  · intro hne
    have hpos := List.length_pos_iff.2 hne
    simp only [List.length_map, List.length_range] at hpos ⊢
    obtain ⟨b, off, spot⟩ := a
    have c0 := (World.cells?_some (hf 0 hpos).1).2.2 0 (by decide)
    have hspot : spot = none := by simpa [Addr.add] using World.cell?_spot c0
    subst hspot
    refine ⟨b, off, rfl, fun k hk => ?_⟩
    have e : ((List.range len).map f).getD k zeroR = f k := by simp [List.getD, hk]
    rw [e]
    have hc := (World.cells?_some (hf k hk).1).2.2
    refine ⟨fun j v hv => ?_, (hf k hk).2.reads⟩
    have hj : j < 15 := by have := (List.getElem?_eq_some_iff.1 hv).1; rwa [cellsR_len] at this
    have d := hc j (by simpa using hj)
    simp only [Addr_add] at d
    rw [d, hv]
  · intro r hr
    obtain ⟨k, hk, rfl⟩ := List.mem_map.1 hr
    exact (hf k (List.mem_range.1 hk)).2

set_option maxRecDepth 100000 in
theorem trod_log {fuel : Nat} {cs : List Value} {x : DataW H × List MemPlace} (h : DataW.trod enc Tryd.prog w base spare held fuel 24 cs = some x) :
    ∃ l : LogA, cs = l.cells ∧ InLog w l := by
  obtain ⟨xs, n, _, _, hlen, hxl, hf⟩ := DataW.trod_struct Tryd.underlying24 h
  rw [Tryd.cellsLg] at hlen
  match cs, hlen with
  | [v0, v1], _ =>
    have f0 := hf 0 _ rfl
    have f1 := hf 1 _ rfl
    obtain ⟨y0, hx0⟩ := some_at xs 0 (by rw [hxl]; decide)
    rw [hx0] at f0
    obtain ⟨y1, hx1⟩ := some_at xs 1 (by rw [hxl]; decide)
    rw [hx1] at f1
    simp only [List.getElem_toArray, List.getElem_cons_zero, List.getElem_cons_succ, Tryd.cellsI, Tryd.cellsRcs, List.drop, List.take] at f0 f1
    obtain ⟨a, c, rs, e0, h0, h1, h2⟩ := trod_recs f0
    obtain ⟨m, e1, w1⟩ := trod_num f1
    simp only [List.cons.injEq, and_true] at e0 e1
    subst e0 e1
    exact ⟨⟨rs, m, a, c⟩, rfl, h0, h1, h2, w1⟩

set_option maxRecDepth 100000 in
/-- A log that came in as an argument. -/
theorem open_log {b0 : Nat} {v : Value} {d : DataW H} {ps : List MemPlace} (hval : Value.okWide Tryd.prog w .any b0 24 v) (h : DataW.Trod enc Tryd.prog w base spare held 24 v d ps) :
    ∃ l : LogA, v = .agg l.cells.toArray ∧ InLog w l := by
  obtain ⟨cs, rfl, hcs⟩ := okWide_struct Tryd.underlying24 hval
  obtain ⟨fuel, hf⟩ := h
  have e : (Value.agg cs).cells.toList = cs.toList := rfl
  rw [e] at hf
  obtain ⟨r, hc, rest⟩ := trod_log hf
  refine ⟨r, ?_, rest⟩
  congr 1
  apply Array.toList_inj.1
  rw [hc]
end
end Go.Proofs.YtbpdocjkhmiimaaDoor

/- What the laws of logs share. -/
namespace Go.Proofs.YtbpdocjkhmiimaaDoor
open Go.RowKit

def zeroLog : LogA := ⟨[], 0, none, 0⟩
theorem LogA.reads.below {w w' : World} {l : LogA} (h : l.reads w) (hb : Below w.heap.size w w') : l.reads w' := ReadsRs.below h hb
theorem LogA.own.reads {w : World} {lo hi : Nat} {l : LogA} (h : l.own w lo hi) : l.reads w := OwnRs.reads h
theorem LogA.own.below {w w' : World} {lo hi : Nat} {l : LogA} (h : l.own w lo hi) (hb : Below w.heap.size w w') : l.own w' lo hi := OwnRs.below h hb
theorem LogA.own.within {w w' : World} {lo hi a b : Nat} {l : LogA} (h : l.own w lo hi) (hw : Within a b w w') (hd : hi ≤ a ∨ b ≤ lo) : l.own w' lo hi := OwnRs.within h hw hd
theorem LogA.own.widen {w : World} {lo hi lo' hi' : Nat} {l : LogA} (h : l.own w lo hi) (h1 : lo' ≤ lo) (h2 : hi ≤ hi') (h3 : hi' ≤ w.heap.size) : l.own w lo' hi' := OwnRs.widen h h1 h2 h3
def LogA.blocks (l : LogA) : List Nat := blocksRs l.a l.c l.recs
theorem LogA.own.blocks_lt {w : World} {lo hi : Nat} {l : LogA} (h : l.own w lo hi) : ∀ k ∈ l.blocks, lo ≤ k ∧ k < hi := OwnRs.blocks_lt h
theorem LogA.own.touch {w w' : World} {lo hi : Nat} {l : LogA} {bl : List Nat} (h : l.own w lo hi) (ht : Touch bl w w') (hd : ∀ k ∈ l.blocks, k ∉ bl) : l.own w' lo hi := OwnRs.touch h ht hd
theorem oneLog (l : LogA) : ∀ v ∈ l.cells, v.oneCell' = true := by
  intro v hv
  simp only [LogA.cells, List.mem_cons, List.not_mem_nil, or_false] at hv
  rcases hv with rfl | rfl <;> rfl
theorem InLog.reads {w : World} {l : LogA} (h : InLog w l) : l.reads w := h.recs
theorem log_one (q : LogA) : q.cells.toArray.all (·.oneCell') = true := all_oneCell_toArray (oneLog q)
theorem log_info (q : LogA) : (Tryd.prog.info? 29).map (·.size) = some q.cells.length := by show _ = some 2; kernel_rfl
theorem log_load {w : World} {C : Nat} (q : LogA) (b : Box w C q.cells 29) : (loadVar 29 ⟨C, 0, none⟩).run Tryd.prog w = .ok (.agg q.cells.toArray) w :=
  run_loadVar_mid (P := Tryd.prog) w C 0 29 q.cells _ (Box.range [] q.cells [] (by simpa using b)) Tryd.underlying29 rfl (log_info q)
theorem log_out {w : World} {C : Nat} (q : LogA) (old : List Value) (ho : old.length = 2) (bC : Box w C old 29) :
    ∃ WF, Hid (w.setCells C 0 q.cells = WF) ∧ Within C (C + 1) w WF ∧ WF.heap.size = w.heap.size ∧ Hid (w.there C 0 q.cells.toArray.size) ∧ Hid ((loadVar 29 ⟨C, 0, none⟩).run Tryd.prog WF = .ok (.agg q.cells.toArray) WF) ∧ Box WF C q.cells 29 := by
  obtain ⟨WF, hWF, bF, hwF, hsF⟩ := range_fill [] old q.cells [] (by simpa using bC) (by rw [ho]; rfl)
  have bF' : Box WF C q.cells 29 := by simpa using bF
  exact ⟨WF, hWF, hwF, hsF, bC.there 0 _ (by rw [ho]; show 0 + 2 ≤ 2; decide), log_load q bF', bF'⟩
end Go.Proofs.YtbpdocjkhmiimaaDoor
