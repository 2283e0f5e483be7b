/- Several texts in one, in their order. -/
import Derived.Test.YtickiokdcbeefaaGreatDoorPFnLogsx26
import Derived.Test.YtickiokdcbeefaaGreatDoorPFnLogsx10
import Derived.Test.YtickiokdcbeefaaGreatDoorPFnLogsx15
import Derived.Deep.RegionHeld3
import Derived.Deep.CutRange
import Derived.Test.YtickiokdcbeefaaGreatDoorPFnLogsx8
import Derived.Test.YtickiokdcbeefaaGreatDoorPFnLogsx13
import Derived.Test.YtickiokdcbeefaaGreatDoorPFnLogsx16
import Derived.Test.YtickiokdcbeefaaGreatDoorPFnLogsx17
import Derived.Test.YtickiokdcbeefaaGreatDoorPFnLogsx18
/- A drawn engine: the walks of spec.EngineNew and spec.l7Draw. -/
namespace Go.Proofs.YtickiokdcbeefaaGreatDoor
open Go.RowKit
attribute [local go_sem ↓] Go.wp_at_zero Go.wp_at_succ

def newE : EngA := zeroE.withNext 1
set_option maxHeartbeats 1000000 in
set_option maxRecDepth 100000 in
theorem alloc_eng {w : World} {ops : Array Oper} {rest : List Oper} {dst : Option Nat} {ty : TypeId} {pos : String} {aft : Array Edge} {act : Act} {Q : Exit → Act → World → Prop}
    (h : wpList Tryz.prog ops Q rest (act.put dst (.pointer (some ⟨w.heap.size, 0, none⟩))) (w.alloc (.cells zeroE.cells.toArray TE))) :
    wpList Tryz.prog ops Q ({ dst := dst, op := .alloc 105, type := ty, pos := pos, after := aft, guard := none } :: rest) act w := by
  refine wpList_plain rfl fun K hK => ?_
  have hz := Tryz.zeroEng
  cases hi : Tryz.prog.info? 105 with
  | none => rw [hi] at hz; cases hz
  | some inf =>
    rw [hi] at hz
    have hz' : inf.zero = some (.agg zeroE.cells.toArray) := by simpa using hz
    obtain ⟨cs, hcs⟩ : ∃ cs, zeroE.cells = cs := ⟨_, rfl⟩
    rw [hcs] at hz' h
    unfold Oper.wp execOp
    have e1 : (zeroValue 105).run Tryz.prog w = .ok (.agg cs.toArray) w := by simp [zeroValue, typeInfo, hi, hz']
    have e2 : (Instr.alloc 105 true (.tuple #[])).run Tryz.prog w = .ok (.pointer (some ⟨w.heap.size, 0, none⟩)) (w.alloc (.cells cs.toArray TE)) := by
      unfold Instr.alloc
      simp only [Sem.run_bind, e1, Result.andThen_ok]
      simp [newVar, go_sem]
    simp only [Sem.run_bind, e2, Result.andThen_ok, Sem.run_pure]
    exact hK _ _ h
set_option maxHeartbeats 1000000 in
set_option maxRecDepth 100000 in
theorem run_buildE (w : World) : (Instr.build 105 #[(5, Value.int .i64 1)]).run Tryz.prog w = .ok (.agg newE.cells.toArray) w := run_build w _ _ _ (by kernel_rfl)
set_option maxHeartbeats 1000000 in
set_option maxRecDepth 100000 in
theorem build_engine {w : World} {ops : Array Oper} {rest : List Oper} {dst : Option Nat} {ty : TypeId} {pos : String} {aft : Array Edge} {act : Act} {Q : Exit → Act → World → Prop}
    (h : wpList Tryz.prog ops Q rest (act.put dst (.agg newE.cells.toArray)) w) :
    wpList Tryz.prog ops Q ({ dst := dst, op := .build 105 #[(5, .const (.int .i64 1))], type := ty, pos := pos, after := aft, guard := none } :: rest) act w := by
  refine wpList_plain rfl fun K hK => ?_
  unfold Oper.wp execOp
  simp only [List.map_toArray, List.map_cons, List.map_nil]
  have ec : act.eval (.const (.int .i64 1)) = .int .i64 1 := rfl
  rw [ec]
  simp only [Sem.run_bind, run_buildE w, Result.andThen_ok, Sem.run_pure]
  exact hK _ _ h
theorem eng_info {e : EngA} (h : e.shape) : (Tryz.prog.info? 105).map (·.size) = some e.cells.length := by rw [EngA.cells_len h]; exact Tryz.infoEng
theorem oneE (e : EngA) : ∀ v ∈ e.cells, v.oneCell' = true := by
  intro v hv
  simp only [EngA.cells, List.mem_append] at hv
  rcases hv with hv | hv
  · obtain ⟨p, _, hp⟩ := List.mem_flatMap.1 hv
    exact oneP p v hp
  · simp only [EngA.tail, List.mem_cons, List.not_mem_nil, or_false] at hv
    rcases hv with rfl | rfl | rfl | rfl | rfl | rfl | rfl | rfl <;> rfl
theorem zeroE_shape : zeroE.shape := ⟨rfl, fun p hp => by
  simp only [zeroE, List.mem_cons, List.not_mem_nil, or_false] at hp
  have : p = zeroP := by rcases hp with h | h | h | h | h | h | h | h <;> exact h
  rw [this]; rfl⟩
theorem newE_shape : newE.shape := ⟨zeroE_shape.eight, zeroE_shape.four⟩
/-- An engine stored into a box. -/
theorem eng_out {w : World} {C : Nat} {q old : EngA} (hq : q.shape) (ho : old.shape) (bC : Box w C old.cells TE) :
    ∃ WF, Hid (w.setCells C 0 q.cells.toArray.toList = WF) ∧ Within C (C + 1) w WF ∧ WF.heap.size = w.heap.size ∧ Hid (w.there C 0 q.cells.toArray.size) ∧ Box WF C q.cells TE := by
  obtain ⟨WF, hWF, bF, hwF, hsF⟩ := range_fill [] old.cells q.cells [] (by simpa using bC) (by rw [EngA.cells_len hq, EngA.cells_len ho])
  refine ⟨WF, hWF, hwF, hsF, bC.there 0 _ (by rw [List.size_toArray, EngA.cells_len hq, EngA.cells_len ho]; omega), by simpa using bF⟩
theorem eng_load {w : World} {C : Nat} {q : EngA} (hq : q.shape) (b : Box w C q.cells TE) : (loadVar 105 ⟨C, 0, none⟩).run Tryz.prog w = .ok (.agg q.cells.toArray) w :=
  run_loadVar_mid (P := Tryz.prog) w C 0 105 q.cells _ (Box.range [] q.cells [] (by simpa using b)) Tryz.underlying105 rfl (eng_info hq)

set_option maxHeartbeats 4000000 in
set_option maxRecDepth 100000 in
theorem engineNew_any (w : World) : Calls Tryz.prog 98 #[] w fun r w' => r = .returned (.agg newE.cells.toArray) ∧ Below w.heap.size w w' := by
  obtain ⟨W, hW, b0, hbW, hsW⟩ := boxes1 w zeroE.cells TE
  obtain ⟨W1, hW1, hw1, hs1, HT1, b1⟩ := eng_out newE_shape zeroE_shape b0
  have N1 : Below w.heap.size w W1 := hbW.trans (hw1.below (Nat.le_refl _) (by omega))
  have HLD : Hid ((loadVar 105 ⟨w.heap.size, 0, none⟩).run Tryz.prog W1 = .ok (.agg newE.cells.toArray) W1) := eng_load newE_shape b1
  have HI1 : Hid ((Tryz.prog.info? 105).map (·.size) = some newE.cells.toArray.size) := eng_info newE_shape
  have HO := all_oneCell_toArray (oneE newE)
  clear hsW hw1 hs1 b0 b1
  obtain ⟨q, hq⟩ : ∃ q, Hid (newE = q) := ⟨_, rfl⟩
  obtain ⟨z, hz⟩ : ∃ z, Hid (zeroE = z) := ⟨_, rfl⟩
  rw [hq.out] at hW1 HT1 HLD HI1 HO ⊢
  rw [hz.out] at hW
  go_enter Tryz.func98, Tryz.ntmps98
  go_wp2_with (first | (guard_target = wpList _ _ _ (Oper.mk (some 0) _ _ _ _ _ :: _) _ _; refine alloc_eng ?_; rw [hz.out, hW.out]) | (guard_target = wpList _ _ _ (Oper.mk (some 1) _ _ _ _ _ :: _) _ _; refine build_engine ?_; rw [hq.out]) | (guard_target = wpList _ _ _ (Oper.mk none (Op.store _ (Operand.tmp 0) _) _ _ _ _ :: _) _ _; refine wpList_store_mid rfl 105 (.tmp 0) (.tmp 1) rfl w.heap.size 0 q.cells.toArray rfl rfl HT1.out HI1.out HO ?_; rw [hW1.out]) | fail)
  exact bodyPost_ret (v := .agg q.cells.toArray) (results_one Tryz.results98 rfl HLD.out) rfl ⟨rfl, N1⟩
theorem SomeStep.after {B E : Nat} {zs : List Int} {e e' e'' : EngA} {w w' w'' : World} (s : SomeStep B E zs e w e' w') (t : SomeStep B E zs e' w' e'' w'') : SomeStep B E zs e w e'' w'' := by
  refine ⟨t.cur, t.at', t.low, ⟨t.touch.os.trans s.touch.os, t.touch.tape.trans s.touch.tape, t.touch.output.trans s.touch.output, Nat.le_trans s.touch.size t.touch.size, fun k hk hn => ?_⟩, fun k hk => ?_⟩
  · refine (t.touch.block k (Nat.lt_of_lt_of_le hk s.touch.size) (fun h => ?_)).trans (s.touch.block k hk hn)
    rcases List.mem_cons.1 h with h | h
    · exact hn (by simp [h])
    · rcases List.mem_cons.1 h with h | h
      · exact hn (by simp [h])
      · rcases s.fresh k h with h | h
        · exact hn (List.mem_cons_of_mem _ (List.mem_cons_of_mem _ h))
        · omega
  · rcases t.fresh k hk with h | h
    · exact s.fresh k h
    · exact .inr (Nat.le_trans s.touch.size h)
theorem newE_own (w : World) : newE.own w 0 w.heap.size := by
  refine ⟨⟨fun s hs => ?_, List.nodup_nil⟩, ownSts_nil _ _ _ (Nat.le_refl _), ownRs_nil _ _ _ (Nat.le_refl _), ownL_nil _ _ _ (Nat.le_refl _), ownH_nil _ _ _ (Nat.le_refl _), List.nodup_nil⟩
  have h1 : ∀ p ∈ newE.disk, p = zeroP := fun p hp => by
    simp only [newE, EngA.withNext, zeroE, List.mem_cons, List.not_mem_nil, or_false] at hp
    rcases hp with h | h | h | h | h | h | h | h <;> exact h
  obtain ⟨p, hp, hs⟩ := List.mem_flatMap.1 hs
  rw [h1 p hp] at hs
  have h2 : s = zeroS := by simpa [zeroP] using hs
  rw [h2]
  exact zero_own _ _ _ (Nat.le_refl _)
/-- What a draw of an engine answers. -/
def EngAns (B : Nat) (zs : List Int) (w : World) (r : Ending) (w' : World) : Prop := ∃ (e : EngA) (i : Nat), r = .returned (.agg e.cells.toArray) ∧ i ≤ 16 ∧ DrawE i e.v ∧ e.shape ∧ e.own w' 0 w'.heap.size ∧ (∀ k ∈ e.blocks, w.heap.size ≤ k) ∧ CurAt w' B zs ∧ Within B (B + 1) w w'

set_option maxHeartbeats 4000000 in
set_option maxRecDepth 100000 in
theorem l7Draw_any (B : Nat) (zs : List Int) (n : Int) (w : World) (hc : CurAt w B zs) (hl : zs.length ≤ 70368744177664) (hn0 : 0 < n) (hn : n ≤ 17) :
    Calls Tryz.prog 71 #[.pointer (some ⟨B, 0, none⟩), .int .i64 n] w fun r w' => EngAns B zs w r w' := by
  obtain ⟨W, hW, b0, hbW, hsW⟩ := boxes1 w zeroE.cells TE
  obtain ⟨z, hz⟩ : ∃ z, Hid (zeroE = z) := ⟨_, rfl⟩
  obtain ⟨q, hq⟩ : ∃ q, Hid (newE = q) := ⟨_, rfl⟩
  have hzs : z.shape := by rw [← hz.out]; exact zeroE_shape
  have hqs : q.shape := by rw [← hq.out]; exact newE_shape
  have hqv : Hid (q.v = newV) := by rw [Hid, ← hq.out]; rfl
  have hqb : Hid (q.blocks = []) := by rw [Hid, ← hq.out]; rfl
  have hqo : ∀ u, q.own u 0 u.heap.size := fun u => by rw [← hq.out]; exact newE_own u
  have CN := engineNew_any W
  rw [hq.out] at CN
  rw [hz.out] at hW b0
  have hBw := hc.lt
  clear hsW
  go_enter Tryz.func71, Tryz.ntmps71
  go_wp2_with (first | (guard_target = wpList _ _ _ (Oper.mk (some 4) _ _ _ _ _ :: _) _ _; refine alloc_eng ?_; rw [hz.out, hW.out]) | fail)
  refine CN.mono ?_
  clear CN
  rintro r w1 ⟨rfl, hb1⟩
  have hs1 := hb1.size
  have bR1 := b0.below hb1 b0.lt
  obtain ⟨W2, hW2, b2, hb2, hs2⟩ := boxes1 w1 z.cells TE
  obtain ⟨W3, hW3, hw3, hs3, HT3, b3⟩ := eng_out hqs hzs b2
  have N13 : Below w1.heap.size w1 W3 := hb2.trans (hw3.below (Nat.le_refl _) (by omega))
  have bR3 := bR1.below N13 bR1.lt
  have N1 : Below w.heap.size w w1 := hbW.trans (hb1.mono hbW.size)
  have N3 : Below w.heap.size w W3 := N1.trans (N13.mono N1.size)
  have hc3 := hc.below N3
  have hR1 := bR1.lt
  have aE : EngAt W3 w1.heap.size q := ⟨b3, hqs, hqo W3, by rw [hqb.out]; simp⟩
  have T3 : SomeStep B w1.heap.size zs q W3 q W3 := SomeStep.refl hc3 aE ⟨by omega, by rw [hqb.out]; simp⟩
  have HI3 : Hid ((Tryz.prog.info? 105).map (·.size) = some q.cells.toArray.size) := eng_info hqs
  have HO := all_oneCell_toArray (oneE q)
  have C3 := l1Below_any B zs n W3 hc3 hl (by omega)
  have hW2' : Hid (w1.alloc (.cells z.cells.toArray TE) = W2) := hW2.out
  clear hs2 hs3 hw3 b2 hb2 hW2
  go_upto_region 2 with (first | (guard_target = wpList _ _ _ (Oper.mk (some 5) _ _ _ _ _ :: _) _ _; refine alloc_eng ?_; rw [hz.out, hW2'.out]) | (guard_target = wpList _ _ _ (Oper.mk none (Op.store _ (Operand.tmp 5) _) _ _ _ _ :: _) _ _; refine wpList_store_mid rfl 105 (.tmp 5) (.tmp 7) rfl w1.heap.size 0 q.cells.toArray rfl rfl HT3.out HI3.out HO ?_; rw [hW3.out]) | fail)
  clear hW2' hW3 HT3 HI3 HO
  go_wp2_with fail
  refine C3.mono ?_
  clear C3
  rintro r w4 ⟨x, rfl, hx, hc4, hg4⟩
  have hx16 : x ≤ 16 := by have := hx hn0; omega
  have T4 := T3.drew hc4 (touch_cur hg4)
  clear hx hc4 hg4 T3 hc3
  go_wp2_with fail
  go_loopw [6] (fun v wr => ∃ (k : Nat) (e : EngA), v = .int .i64 k ∧ k ≤ x ∧ DrawE (x - k) e.v ∧ SomeStep B w1.heap.size zs q W3 e wr) (fun v _ => (intOf v).toNat)
  case atStart => exact ⟨x, q, rfl, Nat.le_refl _, by rw [Nat.sub_self, hqv.out]; exact drawE_new, T4⟩
  case round =>
    obtain ⟨k, e, rfl, hk, hd, T⟩ := hrel
    clear T4
    cases k with
    | zero =>
      have hRoff : ∀ j ∈ w.heap.size :: [], j ∉ B :: w1.heap.size :: q.blocks := fun j hj => by
        rw [List.mem_singleton.1 hj, hqb.out]
        simp only [List.mem_cons, List.not_mem_nil, or_false, not_or]
        exact ⟨by omega, by omega⟩
      have bRr := bR3.touch T.touch (hRoff _ (by simp))
      obtain ⟨WF, hWF, hwF, hsF, HTF, bF⟩ := eng_out T.at'.shape hzs bRr
      have rE : wr.rangeAt w1.heap.size 0 e.cells := Box.range [] e.cells [] (by simpa using T.at'.box)
      have HIe : Hid ((Tryz.prog.info? 105).map (·.size) = some e.cells.length) := eng_info T.at'.shape
      have HIe' : Hid ((Tryz.prog.info? 105).map (·.size) = some e.cells.toArray.size) := eng_info T.at'.shape
      have HO := all_oneCell_toArray (oneE e)
      have HLD : Hid ((loadVar 105 ⟨w.heap.size, 0, none⟩).run Tryz.prog WF = .ok (.agg e.cells.toArray) WF) := eng_load T.at'.shape bF
      have hs3 := N3.size
      have hRb : ∀ j ∈ e.blocks, W3.heap.size ≤ j := fun j hj => (T.fresh j hj).elim (fun h1 => by rw [hqb.out] at h1; cases h1) id
      have hR3 := bR3.lt
      have hoF := (T.at'.within hwF (by omega) (fun j hj => by have := hRb j hj; omega)).own
      have hcF := T.cur.within hwF (by omega)
      have hWin : Within B (B + 1) w WF := ⟨hwF.os.trans (T.touch.os.trans N3.os), hwF.tape.trans (T.touch.tape.trans N3.tape), hwF.output.trans (T.touch.output.trans N3.output), Nat.le_trans hs3 (Nat.le_trans T.touch.size hwF.size), fun j hj hn1 => (hwF.block j (by have := T.touch.size; omega) (by omega)).trans ((T.touch.block j (by omega) (by
        rw [hqb.out]
        simp only [List.mem_cons, List.not_mem_nil, or_false, not_or]
        exact ⟨by omega, by omega⟩)).trans (N3.block j hj))⟩
      have HEND : Hid (EngAns B zs w (.returned (.agg e.cells.toArray)) WF) := ⟨e, x, rfl, hx16, hd, T.at'.shape, hoF, fun j hj => by have := hRb j hj; omega, hcF, hWin⟩
      clear hRoff hRb hoF hcF hWin bF bRr hwF hsF hd
      go_wp2_with (first | (guard_target = wpList _ _ _ (Oper.mk (some 17) _ _ _ _ _ :: _) _ _; refine wpList_load_mid rfl 105 (.tmp 5) rfl w1.heap.size 0 rfl e.cells _ rE Tryz.underlying105 rfl HIe.out ?_) | (guard_target = wpList _ _ _ (Oper.mk none (Op.store _ (Operand.tmp 4) _) _ _ _ _ :: _) _ _; refine wpList_store_mid rfl 105 (.tmp 4) (.tmp 17) rfl w.heap.size 0 e.cells.toArray rfl rfl HTF.out HIe'.out HO ?_; rw [hWF.out]) | fail)
      exact bodyPost_ret (v := .agg e.cells.toArray) (results_one Tryz.results71 rfl HLD.out) rfl HEND.out
    | succ k =>
      have C5 := l7Some_any (x - (k + 1)) B w1.heap.size zs e wr T.cur hl T.at' T.low hd (by omega)
      go_wp2_with fail
      refine C5.mono ?_
      clear C5
      rintro r w5 ⟨⟨v5, rfl⟩, e5, hd5, t5⟩
      have T5 := T.after t5
      have hd5' : DrawE (x - k) e5.v := by rw [show x - k = x - (k + 1) + 1 by omega]; exact hd5
      clear hd5 t5 T
      go_wp2_with fail
      go_roundw
      case rel => exact ⟨k, e5, by go_num, by omega, hd5', T5⟩
      case measure => simp [intOf]
end Go.Proofs.YtickiokdcbeefaaGreatDoor

/- Drawn records: the walks of spec.l4Draw. -/
namespace Go.Proofs.YtickiokdcbeefaaGreatDoor
open Go.RowKit

theorem readsI_box {w : World} {g : Nat} {t : TypeId} (ns : List Int) (b : Box w g (ns.map (Value.int .i64)) t) : ReadsI w (some ⟨g, 0, none⟩) ns := fun _ => ⟨g, 0, rfl, fun i hi => by
  rw [Nat.zero_add]
  exact b.cell i _ (by simp [List.getD, hi])⟩
/-- A record that was drawn: its lists are short, and the call owns them. -/
def Drawn (w w' : World) (B : Nat) (zs : List Int) (e : Ending) : Prop := ∃ t : RecA, e = .returned (.agg t.cells.toArray) ∧ t.short 10 ∧ t.own w' w.heap.size w'.heap.size ∧ CurAt w' B zs ∧ Within B (B + 1) w w'
end Go.Proofs.YtickiokdcbeefaaGreatDoor

/- Drawn records, bent or not: the walks of spec.l4Bend, l4DrawAny and DrawPutRec. -/
namespace Go.Proofs.YtickiokdcbeefaaGreatDoor
open Go.RowKit

/-- A record that was bent: its rows are the old ones or new. -/
def BentAt (lo hi : Nat) (w w' : World) (B : Nat) (zs : List Int) (e : Ending) : Prop := ∃ t : RecA, e = .returned (.agg t.cells.toArray) ∧ t.short 12 ∧ t.own w' lo w'.heap.size ∧ (∀ k ∈ t.blocks, k < hi ∨ w.heap.size ≤ k) ∧ CurAt w' B zs ∧ Within B (B + 1) w w'
theorem own_fresh {w : World} {r : RecA} {lo hi lo' hi' : Nat} {aL : Option Addr} {cL : Nat} {ls : List LiveV} (h : r.own w lo hi) (hL : OwnL w lo' hi' aL cL ls) (h1 : hi ≤ lo') (h2 : lo ≤ lo') (h3 : lo' ≤ hi') : (⟨r.lsn, r.tx, r.prev, r.kind, r.oid, r.bf, r.af, r.next, ls, aL, cL⟩ : RecA).own w lo hi' := by
  have hh : hi' ≤ w.heap.size := hL.2.1
  refine ⟨OwnO.widen h.bf (Nat.le_refl _) (by omega) hh, OwnO.widen h.af (Nat.le_refl _) (by omega) hh, hL.widen h2 (Nat.le_refl _) hh, ?_⟩
  have ha := h.apart
  simp only [RecA.blocks] at ha ⊢
  rw [List.nodup_append] at ha ⊢
  obtain ⟨a1, a2, a3⟩ := ha
  rw [List.nodup_append] at a2 ⊢
  refine ⟨a1, ⟨a2.1, by cases (Value.slice aL ls.length cL).ownBlock <;> simp, ?_⟩, ?_⟩
  · intro x hx y hy e
    have b1 := SlotA.blocks_lt h.af x hx
    have b2 := hL.lt y (Option.mem_toList.1 hy)
    omega
  · intro x hx y hy
    rcases List.mem_append.1 hy with hy | hy
    · exact a3 x hx y (List.mem_append.2 (.inl hy))
    · intro e
      have b1 := SlotA.blocks_lt h.bf x hx
      have b2 := hL.lt y (Option.mem_toList.1 hy)
      omega

set_option maxHeartbeats 8000000 in
set_option maxRecDepth 100000 in
theorem l4Bend_any (B lo hi : Nat) (zs : List Int) (r : RecA) (w : World) (hc : CurAt w B zs) (hl : zs.length ≤ 70368744177664) (ho : r.own w lo hi) (hB : B < lo) (hh : lo ≤ hi) (hsh : r.short 10) :
    Calls Tryz.prog 48 #[.pointer (some ⟨B, 0, none⟩), .agg r.cells.toArray] w fun e w' => BentAt lo hi w w' B zs e := by
  have hBw := hc.lt
  have hhw : hi ≤ w.heap.size := ho.txs.2.1
  obtain ⟨W, hW, bX, bR, hbW, hsW⟩ := boxes2 w r.cells [.int .i64 0, .int .i64 0, .int .i64 0, .int .i64 0, .int .i64 0, .bool false, .int .i64 0, .slice none 0 0, .slice none 0 0, .bool false, .int .i64 0, .slice none 0 0, .slice none 0 0, .int .i64 0, .slice none 0 0] 42 42
  have HW : Within B (B + 1) w W := Within.of_below hbW
  replace hc : CurAt W B zs := hc.below hbW
  replace ho := ho.below hbW
  have hsW' : w.heap.size + 1 < W.heap.size := bR.lt
  have HSH : Hid (r.short 10) := hsh
  simp only [RecA.cells] at hW bX ⊢
  clear hsW hbW hsh
  go_enter Tryz.func48, Tryz.ntmps48
  go_wp2_with fail
  rw [hW.out]
  clear hW
  refine (l1Below_any B zs 8 W hc hl (by omega)).mono ?_
  clear hc
  rintro e v1 ⟨x, rfl, hx, hc, hgv1⟩
  replace hx : (x : Int) < 8 := hx (by decide)
  have hwv1 := within_cur hgv1
  clear hgv1
  have sv1 := hwv1.size
  replace bR := bR.within hwv1 (by omega)
  replace bX := bX.within hwv1 (by omega)
  replace ho := ho.within hwv1 (by omega)
  replace HW := HW.trans hwv1
  clear hwv1
  by_cases q0 : x = 0
  case pos =>
    have t0_ : ((x : Int) == 0) = true := by simp; omega
    clear q0
    obtain ⟨v2, hv2, bI, hbv2, ev2⟩ := boxes1 v1 [.int .i64 (0), .int .i64 (1), .int .i64 (1000000), .int .i64 (1000001)] 3
    have lIv2 := bI.lt
    clear ev2
    go_wp2_with fail
    rw [hv2.out]
    clear hv2
    have sv2 := hbv2.size
    replace hc := hc.below hbv2
    replace bR := bR.below hbv2 bR.lt
    replace bX := bX.below hbv2 bX.lt
    replace ho := ho.below hbv2
    replace HW := HW.trans (Within.of_below hbv2)
    clear hbv2
    refine (l1Int_any B zs (some ⟨v1.heap.size, 0, none⟩) 4 [0, 1, 1000000, 1000001] v2 hc hl (readsI_box [0, 1, 1000000, 1000001] bI) (fun b off h => by cases h; omega) (by simp) (by simp)).mono ?_
    clear hc bI
    rintro e v3 ⟨jv3, hjv3, rfl, hc, hgv3⟩
    generalize ([0, 1, 1000000, 1000001] : List Int).getD jv3 0 = nv at *
    clear hjv3
    have hwv3 := within_cur hgv3
    clear hgv3
    have sv3 := hwv3.size
    replace bR := bR.within hwv3 (by omega)
    replace bX := bX.within hwv3 (by omega)
    replace ho := ho.within hwv3 (by omega)
    replace HW := HW.trans hwv3
    clear hwv3
    have cx0 := bX.cell 0 _ rfl
    have cf0 := bX.frozen 0
    obtain ⟨v4, hv4, bX2, hwv4, ev4⟩ := box_set bX 0 (.int .i64 nv)
    have e1v4 := Nat.le_of_eq ev4
    have e2v4 := Nat.le_of_eq ev4.symm
    clear ev4
    simp only [List.set] at bX2
    replace hc := hc.within hwv4 (by omega)
    replace bR := bR.within hwv4 (by omega)
    replace ho := ho.within hwv4 (by omega)
    replace HW := HW.new hwv4 (by omega)
    clear bX hwv4
    have bX := bX2
    clear bX2
    go_upto_region 16 with fail
    rw [hv4.out]
    clear hv4 cx0 cf0
    have bT : Box v4 w.heap.size (RecA.cells ⟨nv, r.tx, r.prev, r.kind, r.oid, r.bf, r.af, r.next, r.txs, r.aL, r.cL⟩) 42 := bX
    have HST : Hid (RecA.short ⟨nv, r.tx, r.prev, r.kind, r.oid, r.bf, r.af, r.next, r.txs, r.aL, r.cL⟩ 12) := ⟨by have := HSH.out.bf; show r.bf.v.o.ints.length ≤ 12 ∧ r.bf.v.o.refs.length ≤ 12; omega, by have := HSH.out.af; show r.af.v.o.ints.length ≤ 12 ∧ r.af.v.o.refs.length ≤ 12; omega, by have := HSH.out.txs; show r.txs.length ≤ 12; omega⟩
    obtain ⟨WF, hWF, hwF, hsF, HTF, HLF, _⟩ := rec_out ⟨nv, r.tx, r.prev, r.kind, r.oid, r.bf, r.af, r.next, r.txs, r.aL, r.cL⟩ _ rfl bR
    have oT : RecA.own WF lo WF.heap.size ⟨nv, r.tx, r.prev, r.kind, r.oid, r.bf, r.af, r.next, r.txs, r.aL, r.cL⟩ := (⟨OwnO.widen (OwnO.within ho.bf hwF (by omega)) (Nat.le_refl _) (by omega) (Nat.le_refl _), OwnO.widen (OwnO.within ho.af hwF (by omega)) (Nat.le_refl _) (by omega) (Nat.le_refl _), (ho.txs.within hwF (by omega)).widen (Nat.le_refl _) (by omega) (Nat.le_refl _), ho.apart⟩)
    have HBL : Hid (∀ k ∈ RecA.blocks ⟨nv, r.tx, r.prev, r.kind, r.oid, r.bf, r.af, r.next, r.txs, r.aL, r.cL⟩, k < hi ∨ w.heap.size ≤ k) := fun k hk => .inl (ho.blocks_lt k hk).2
    have HF : Hid (BentAt lo hi w WF B zs (.returned (.agg (RecA.cells ⟨nv, r.tx, r.prev, r.kind, r.oid, r.bf, r.af, r.next, r.txs, r.aL, r.cL⟩).toArray))) := ⟨_, rfl, HST.out, oT, HBL.out, hc.within hwF (by omega), HW.new hwF (by omega)⟩
    have rT : v4.rangeAt w.heap.size 0 (RecA.cells ⟨nv, r.tx, r.prev, r.kind, r.oid, r.bf, r.af, r.next, r.txs, r.aL, r.cL⟩) := Box.range [] _ [] (by simpa using bT)
    clear hwF hsF bX oT HBL
    generalize hT : ((⟨nv, r.tx, r.prev, r.kind, r.oid, r.bf, r.af, r.next, r.txs, r.aL, r.cL⟩) : RecA) = TT at *
    clear hT
    go_wp2_with (first | (guard_target = wpList _ _ _ (Oper.mk (some 63) _ _ _ _ _ :: _) _ _; refine wpList_load_mid rfl 42 (.tmp 3) rfl w.heap.size 0 rfl TT.cells _ rT Tryz.underlying42 rfl (rec_info _) ?_) | (guard_target = wpList _ _ _ (Oper.mk none (Op.store _ (Operand.tmp 4) _) _ _ _ _ :: _) _ _; refine wpList_store_mid rfl 42 (.tmp 4) (.tmp 63) rfl (w.heap.size + 1) 0 TT.cells.toArray rfl rfl HTF.out (by rw [List.size_toArray]; exact rec_info _) (rec_one _) ?_) | fail)
    rw [hWF.out]
    exact bodyPost_ret (v := .agg TT.cells.toArray) (results_one Tryz.results48 rfl HLF.out) rfl HF.out
  case neg =>
  by_cases q1 : x = 1
  case pos =>
    have t1_ : ((x : Int) == 1) = true := by simp; omega
    have f0_ : ((x : Int) == 0) = false := by simp; omega
    clear q0 q1
    obtain ⟨v2, hv2, bI, hbv2, ev2⟩ := boxes1 v1 [.int .i64 (0), .int .i64 (1000), .int .i64 (1001)] 3
    have lIv2 := bI.lt
    clear ev2
    go_wp2_with fail
    rw [hv2.out]
    clear hv2
    have sv2 := hbv2.size
    replace hc := hc.below hbv2
    replace bR := bR.below hbv2 bR.lt
    replace bX := bX.below hbv2 bX.lt
    replace ho := ho.below hbv2
    replace HW := HW.trans (Within.of_below hbv2)
    clear hbv2
    refine (l1Int_any B zs (some ⟨v1.heap.size, 0, none⟩) 3 [0, 1000, 1001] v2 hc hl (readsI_box [0, 1000, 1001] bI) (fun b off h => by cases h; omega) (by simp) (by simp)).mono ?_
    clear hc bI
    rintro e v3 ⟨jv3, hjv3, rfl, hc, hgv3⟩
    generalize ([0, 1000, 1001] : List Int).getD jv3 0 = nv at *
    clear hjv3
    have hwv3 := within_cur hgv3
    clear hgv3
    have sv3 := hwv3.size
    replace bR := bR.within hwv3 (by omega)
    replace bX := bX.within hwv3 (by omega)
    replace ho := ho.within hwv3 (by omega)
    replace HW := HW.trans hwv3
    clear hwv3
    have cx1 := bX.cell 1 _ rfl
    have cf1 := bX.frozen 1
    obtain ⟨v4, hv4, bX2, hwv4, ev4⟩ := box_set bX 1 (.int .i64 nv)
    have e1v4 := Nat.le_of_eq ev4
    have e2v4 := Nat.le_of_eq ev4.symm
    clear ev4
    simp only [List.set] at bX2
    replace hc := hc.within hwv4 (by omega)
    replace bR := bR.within hwv4 (by omega)
    replace ho := ho.within hwv4 (by omega)
    replace HW := HW.new hwv4 (by omega)
    clear bX hwv4
    have bX := bX2
    clear bX2
    go_upto_region 16 with fail
    rw [hv4.out]
    clear hv4 cx1 cf1
    have bT : Box v4 w.heap.size (RecA.cells ⟨r.lsn, nv, r.prev, r.kind, r.oid, r.bf, r.af, r.next, r.txs, r.aL, r.cL⟩) 42 := bX
    have HST : Hid (RecA.short ⟨r.lsn, nv, r.prev, r.kind, r.oid, r.bf, r.af, r.next, r.txs, r.aL, r.cL⟩ 12) := ⟨by have := HSH.out.bf; show r.bf.v.o.ints.length ≤ 12 ∧ r.bf.v.o.refs.length ≤ 12; omega, by have := HSH.out.af; show r.af.v.o.ints.length ≤ 12 ∧ r.af.v.o.refs.length ≤ 12; omega, by have := HSH.out.txs; show r.txs.length ≤ 12; omega⟩
    obtain ⟨WF, hWF, hwF, hsF, HTF, HLF, _⟩ := rec_out ⟨r.lsn, nv, r.prev, r.kind, r.oid, r.bf, r.af, r.next, r.txs, r.aL, r.cL⟩ _ rfl bR
    have oT : RecA.own WF lo WF.heap.size ⟨r.lsn, nv, r.prev, r.kind, r.oid, r.bf, r.af, r.next, r.txs, r.aL, r.cL⟩ := (⟨OwnO.widen (OwnO.within ho.bf hwF (by omega)) (Nat.le_refl _) (by omega) (Nat.le_refl _), OwnO.widen (OwnO.within ho.af hwF (by omega)) (Nat.le_refl _) (by omega) (Nat.le_refl _), (ho.txs.within hwF (by omega)).widen (Nat.le_refl _) (by omega) (Nat.le_refl _), ho.apart⟩)
    have HBL : Hid (∀ k ∈ RecA.blocks ⟨r.lsn, nv, r.prev, r.kind, r.oid, r.bf, r.af, r.next, r.txs, r.aL, r.cL⟩, k < hi ∨ w.heap.size ≤ k) := fun k hk => .inl (ho.blocks_lt k hk).2
    have HF : Hid (BentAt lo hi w WF B zs (.returned (.agg (RecA.cells ⟨r.lsn, nv, r.prev, r.kind, r.oid, r.bf, r.af, r.next, r.txs, r.aL, r.cL⟩).toArray))) := ⟨_, rfl, HST.out, oT, HBL.out, hc.within hwF (by omega), HW.new hwF (by omega)⟩
    have rT : v4.rangeAt w.heap.size 0 (RecA.cells ⟨r.lsn, nv, r.prev, r.kind, r.oid, r.bf, r.af, r.next, r.txs, r.aL, r.cL⟩) := Box.range [] _ [] (by simpa using bT)
    clear hwF hsF bX oT HBL
    generalize hT : ((⟨r.lsn, nv, r.prev, r.kind, r.oid, r.bf, r.af, r.next, r.txs, r.aL, r.cL⟩) : RecA) = TT at *
    clear hT
    go_wp2_with (first | (guard_target = wpList _ _ _ (Oper.mk (some 63) _ _ _ _ _ :: _) _ _; refine wpList_load_mid rfl 42 (.tmp 3) rfl w.heap.size 0 rfl TT.cells _ rT Tryz.underlying42 rfl (rec_info _) ?_) | (guard_target = wpList _ _ _ (Oper.mk none (Op.store _ (Operand.tmp 4) _) _ _ _ _ :: _) _ _; refine wpList_store_mid rfl 42 (.tmp 4) (.tmp 63) rfl (w.heap.size + 1) 0 TT.cells.toArray rfl rfl HTF.out (by rw [List.size_toArray]; exact rec_info _) (rec_one _) ?_) | fail)
    rw [hWF.out]
    exact bodyPost_ret (v := .agg TT.cells.toArray) (results_one Tryz.results48 rfl HLF.out) rfl HF.out
  case neg =>
  by_cases q2 : x = 2
  case pos =>
    have t2_ : ((x : Int) == 2) = true := by simp; omega
    have f0_ : ((x : Int) == 0) = false := by simp; omega
    have f1_ : ((x : Int) == 1) = false := by simp; omega
    clear q0 q1 q2
    have k0 := bX.cell 0 _ rfl
    obtain ⟨v2, hv2, bI, hbv2, ev2⟩ := boxes1 v1 [.int .i64 (-1), .int .i64 (r.lsn), .int .i64 (0)] 3
    have lIv2 := bI.lt
    clear ev2
    go_wp2_with fail
    rw [hv2.out]
    clear hv2
    have sv2 := hbv2.size
    replace hc := hc.below hbv2
    replace bR := bR.below hbv2 bR.lt
    replace bX := bX.below hbv2 bX.lt
    replace ho := ho.below hbv2
    replace HW := HW.trans (Within.of_below hbv2)
    clear hbv2
    refine (l1Int_any B zs (some ⟨v1.heap.size, 0, none⟩) 3 [-1, r.lsn, 0] v2 hc hl (readsI_box [-1, r.lsn, 0] bI) (fun b off h => by cases h; omega) (by simp) (by simp)).mono ?_
    clear hc bI
    rintro e v3 ⟨jv3, hjv3, rfl, hc, hgv3⟩
    generalize ([-1, r.lsn, 0] : List Int).getD jv3 0 = nv at *
    clear hjv3
    have hwv3 := within_cur hgv3
    clear hgv3
    have sv3 := hwv3.size
    replace bR := bR.within hwv3 (by omega)
    replace bX := bX.within hwv3 (by omega)
    replace ho := ho.within hwv3 (by omega)
    replace HW := HW.trans hwv3
    clear hwv3
    clear k0
    have cx2 := bX.cell 2 _ rfl
    have cf2 := bX.frozen 2
    obtain ⟨v4, hv4, bX2, hwv4, ev4⟩ := box_set bX 2 (.int .i64 nv)
    have e1v4 := Nat.le_of_eq ev4
    have e2v4 := Nat.le_of_eq ev4.symm
    clear ev4
    simp only [List.set] at bX2
    replace hc := hc.within hwv4 (by omega)
    replace bR := bR.within hwv4 (by omega)
    replace ho := ho.within hwv4 (by omega)
    replace HW := HW.new hwv4 (by omega)
    clear bX hwv4
    have bX := bX2
    clear bX2
    go_upto_region 16 with fail
    rw [hv4.out]
    clear hv4 cx2 cf2
    have bT : Box v4 w.heap.size (RecA.cells ⟨r.lsn, r.tx, nv, r.kind, r.oid, r.bf, r.af, r.next, r.txs, r.aL, r.cL⟩) 42 := bX
    have HST : Hid (RecA.short ⟨r.lsn, r.tx, nv, r.kind, r.oid, r.bf, r.af, r.next, r.txs, r.aL, r.cL⟩ 12) := ⟨by have := HSH.out.bf; show r.bf.v.o.ints.length ≤ 12 ∧ r.bf.v.o.refs.length ≤ 12; omega, by have := HSH.out.af; show r.af.v.o.ints.length ≤ 12 ∧ r.af.v.o.refs.length ≤ 12; omega, by have := HSH.out.txs; show r.txs.length ≤ 12; omega⟩
    obtain ⟨WF, hWF, hwF, hsF, HTF, HLF, _⟩ := rec_out ⟨r.lsn, r.tx, nv, r.kind, r.oid, r.bf, r.af, r.next, r.txs, r.aL, r.cL⟩ _ rfl bR
    have oT : RecA.own WF lo WF.heap.size ⟨r.lsn, r.tx, nv, r.kind, r.oid, r.bf, r.af, r.next, r.txs, r.aL, r.cL⟩ := (⟨OwnO.widen (OwnO.within ho.bf hwF (by omega)) (Nat.le_refl _) (by omega) (Nat.le_refl _), OwnO.widen (OwnO.within ho.af hwF (by omega)) (Nat.le_refl _) (by omega) (Nat.le_refl _), (ho.txs.within hwF (by omega)).widen (Nat.le_refl _) (by omega) (Nat.le_refl _), ho.apart⟩)
    have HBL : Hid (∀ k ∈ RecA.blocks ⟨r.lsn, r.tx, nv, r.kind, r.oid, r.bf, r.af, r.next, r.txs, r.aL, r.cL⟩, k < hi ∨ w.heap.size ≤ k) := fun k hk => .inl (ho.blocks_lt k hk).2
    have HF : Hid (BentAt lo hi w WF B zs (.returned (.agg (RecA.cells ⟨r.lsn, r.tx, nv, r.kind, r.oid, r.bf, r.af, r.next, r.txs, r.aL, r.cL⟩).toArray))) := ⟨_, rfl, HST.out, oT, HBL.out, hc.within hwF (by omega), HW.new hwF (by omega)⟩
    have rT : v4.rangeAt w.heap.size 0 (RecA.cells ⟨r.lsn, r.tx, nv, r.kind, r.oid, r.bf, r.af, r.next, r.txs, r.aL, r.cL⟩) := Box.range [] _ [] (by simpa using bT)
    clear hwF hsF bX oT HBL
    generalize hT : ((⟨r.lsn, r.tx, nv, r.kind, r.oid, r.bf, r.af, r.next, r.txs, r.aL, r.cL⟩) : RecA) = TT at *
    clear hT
    go_wp2_with (first | (guard_target = wpList _ _ _ (Oper.mk (some 63) _ _ _ _ _ :: _) _ _; refine wpList_load_mid rfl 42 (.tmp 3) rfl w.heap.size 0 rfl TT.cells _ rT Tryz.underlying42 rfl (rec_info _) ?_) | (guard_target = wpList _ _ _ (Oper.mk none (Op.store _ (Operand.tmp 4) _) _ _ _ _ :: _) _ _; refine wpList_store_mid rfl 42 (.tmp 4) (.tmp 63) rfl (w.heap.size + 1) 0 TT.cells.toArray rfl rfl HTF.out (by rw [List.size_toArray]; exact rec_info _) (rec_one _) ?_) | fail)
    rw [hWF.out]
    exact bodyPost_ret (v := .agg TT.cells.toArray) (results_one Tryz.results48 rfl HLF.out) rfl HF.out
  case neg =>
  by_cases q3 : x = 3
  case pos =>
    have t3_ : ((x : Int) == 3) = true := by simp; omega
    have f0_ : ((x : Int) == 0) = false := by simp; omega
    have f1_ : ((x : Int) == 1) = false := by simp; omega
    have f2_ : ((x : Int) == 2) = false := by simp; omega
    clear q0 q1 q2 q3
    obtain ⟨v2, hv2, bI, hbv2, ev2⟩ := boxes1 v1 [.int .i64 (0), .int .i64 (7), .int .i64 (1), .int .i64 (4)] 3
    have lIv2 := bI.lt
    clear ev2
    go_wp2_with fail
    rw [hv2.out]
    clear hv2
    have sv2 := hbv2.size
    replace hc := hc.below hbv2
    replace bR := bR.below hbv2 bR.lt
    replace bX := bX.below hbv2 bX.lt
    replace ho := ho.below hbv2
    replace HW := HW.trans (Within.of_below hbv2)
    clear hbv2
    refine (l1Int_any B zs (some ⟨v1.heap.size, 0, none⟩) 4 [0, 7, 1, 4] v2 hc hl (readsI_box [0, 7, 1, 4] bI) (fun b off h => by cases h; omega) (by simp) (by simp)).mono ?_
    clear hc bI
    rintro e v3 ⟨jv3, hjv3, rfl, hc, hgv3⟩
    generalize ([0, 7, 1, 4] : List Int).getD jv3 0 = nv at *
    clear hjv3
    have hwv3 := within_cur hgv3
    clear hgv3
    have sv3 := hwv3.size
    replace bR := bR.within hwv3 (by omega)
    replace bX := bX.within hwv3 (by omega)
    replace ho := ho.within hwv3 (by omega)
    replace HW := HW.trans hwv3
    clear hwv3
    have cx3 := bX.cell 3 _ rfl
    have cf3 := bX.frozen 3
    obtain ⟨v4, hv4, bX2, hwv4, ev4⟩ := box_set bX 3 (.int .i64 nv)
    have e1v4 := Nat.le_of_eq ev4
    have e2v4 := Nat.le_of_eq ev4.symm
    clear ev4
    simp only [List.set] at bX2
    replace hc := hc.within hwv4 (by omega)
    replace bR := bR.within hwv4 (by omega)
    replace ho := ho.within hwv4 (by omega)
    replace HW := HW.new hwv4 (by omega)
    clear bX hwv4
    have bX := bX2
    clear bX2
    go_upto_region 16 with fail
    rw [hv4.out]
    clear hv4 cx3 cf3
    have bT : Box v4 w.heap.size (RecA.cells ⟨r.lsn, r.tx, r.prev, nv, r.oid, r.bf, r.af, r.next, r.txs, r.aL, r.cL⟩) 42 := bX
    have HST : Hid (RecA.short ⟨r.lsn, r.tx, r.prev, nv, r.oid, r.bf, r.af, r.next, r.txs, r.aL, r.cL⟩ 12) := ⟨by have := HSH.out.bf; show r.bf.v.o.ints.length ≤ 12 ∧ r.bf.v.o.refs.length ≤ 12; omega, by have := HSH.out.af; show r.af.v.o.ints.length ≤ 12 ∧ r.af.v.o.refs.length ≤ 12; omega, by have := HSH.out.txs; show r.txs.length ≤ 12; omega⟩
    obtain ⟨WF, hWF, hwF, hsF, HTF, HLF, _⟩ := rec_out ⟨r.lsn, r.tx, r.prev, nv, r.oid, r.bf, r.af, r.next, r.txs, r.aL, r.cL⟩ _ rfl bR
    have oT : RecA.own WF lo WF.heap.size ⟨r.lsn, r.tx, r.prev, nv, r.oid, r.bf, r.af, r.next, r.txs, r.aL, r.cL⟩ := (⟨OwnO.widen (OwnO.within ho.bf hwF (by omega)) (Nat.le_refl _) (by omega) (Nat.le_refl _), OwnO.widen (OwnO.within ho.af hwF (by omega)) (Nat.le_refl _) (by omega) (Nat.le_refl _), (ho.txs.within hwF (by omega)).widen (Nat.le_refl _) (by omega) (Nat.le_refl _), ho.apart⟩)
    have HBL : Hid (∀ k ∈ RecA.blocks ⟨r.lsn, r.tx, r.prev, nv, r.oid, r.bf, r.af, r.next, r.txs, r.aL, r.cL⟩, k < hi ∨ w.heap.size ≤ k) := fun k hk => .inl (ho.blocks_lt k hk).2
    have HF : Hid (BentAt lo hi w WF B zs (.returned (.agg (RecA.cells ⟨r.lsn, r.tx, r.prev, nv, r.oid, r.bf, r.af, r.next, r.txs, r.aL, r.cL⟩).toArray))) := ⟨_, rfl, HST.out, oT, HBL.out, hc.within hwF (by omega), HW.new hwF (by omega)⟩
    have rT : v4.rangeAt w.heap.size 0 (RecA.cells ⟨r.lsn, r.tx, r.prev, nv, r.oid, r.bf, r.af, r.next, r.txs, r.aL, r.cL⟩) := Box.range [] _ [] (by simpa using bT)
    clear hwF hsF bX oT HBL
    generalize hT : ((⟨r.lsn, r.tx, r.prev, nv, r.oid, r.bf, r.af, r.next, r.txs, r.aL, r.cL⟩) : RecA) = TT at *
    clear hT
    go_wp2_with (first | (guard_target = wpList _ _ _ (Oper.mk (some 63) _ _ _ _ _ :: _) _ _; refine wpList_load_mid rfl 42 (.tmp 3) rfl w.heap.size 0 rfl TT.cells _ rT Tryz.underlying42 rfl (rec_info _) ?_) | (guard_target = wpList _ _ _ (Oper.mk none (Op.store _ (Operand.tmp 4) _) _ _ _ _ :: _) _ _; refine wpList_store_mid rfl 42 (.tmp 4) (.tmp 63) rfl (w.heap.size + 1) 0 TT.cells.toArray rfl rfl HTF.out (by rw [List.size_toArray]; exact rec_info _) (rec_one _) ?_) | fail)
    rw [hWF.out]
    exact bodyPost_ret (v := .agg TT.cells.toArray) (results_one Tryz.results48 rfl HLF.out) rfl HF.out
  case neg =>
  by_cases q4 : x = 4
  case pos =>
    have t4_ : ((x : Int) == 4) = true := by simp; omega
    have f0_ : ((x : Int) == 0) = false := by simp; omega
    have f1_ : ((x : Int) == 1) = false := by simp; omega
    have f2_ : ((x : Int) == 2) = false := by simp; omega
    have f3_ : ((x : Int) == 3) = false := by simp; omega
    clear q0 q1 q2 q3 q4
    obtain ⟨v2, hv2, bI, hbv2, ev2⟩ := boxes1 v1 [.int .i64 (0), .int .i64 (31), .int .i64 (32)] 3
    have lIv2 := bI.lt
    clear ev2
    go_wp2_with fail
    rw [hv2.out]
    clear hv2
    have sv2 := hbv2.size
    replace hc := hc.below hbv2
    replace bR := bR.below hbv2 bR.lt
    replace bX := bX.below hbv2 bX.lt
    replace ho := ho.below hbv2
    replace HW := HW.trans (Within.of_below hbv2)
    clear hbv2
    refine (l1Int_any B zs (some ⟨v1.heap.size, 0, none⟩) 3 [0, 31, 32] v2 hc hl (readsI_box [0, 31, 32] bI) (fun b off h => by cases h; omega) (by simp) (by simp)).mono ?_
    clear hc bI
    rintro e v3 ⟨jv3, hjv3, rfl, hc, hgv3⟩
    generalize ([0, 31, 32] : List Int).getD jv3 0 = nv at *
    clear hjv3
    have hwv3 := within_cur hgv3
    clear hgv3
    have sv3 := hwv3.size
    replace bR := bR.within hwv3 (by omega)
    replace bX := bX.within hwv3 (by omega)
    replace ho := ho.within hwv3 (by omega)
    replace HW := HW.trans hwv3
    clear hwv3
    have cx4 := bX.cell 4 _ rfl
    have cf4 := bX.frozen 4
    obtain ⟨v4, hv4, bX2, hwv4, ev4⟩ := box_set bX 4 (.int .i64 nv)
    have e1v4 := Nat.le_of_eq ev4
    have e2v4 := Nat.le_of_eq ev4.symm
    clear ev4
    simp only [List.set] at bX2
    replace hc := hc.within hwv4 (by omega)
    replace bR := bR.within hwv4 (by omega)
    replace ho := ho.within hwv4 (by omega)
    replace HW := HW.new hwv4 (by omega)
    clear bX hwv4
    have bX := bX2
    clear bX2
    go_upto_region 16 with fail
    rw [hv4.out]
    clear hv4 cx4 cf4
    have bT : Box v4 w.heap.size (RecA.cells ⟨r.lsn, r.tx, r.prev, r.kind, nv, r.bf, r.af, r.next, r.txs, r.aL, r.cL⟩) 42 := bX
    have HST : Hid (RecA.short ⟨r.lsn, r.tx, r.prev, r.kind, nv, r.bf, r.af, r.next, r.txs, r.aL, r.cL⟩ 12) := ⟨by have := HSH.out.bf; show r.bf.v.o.ints.length ≤ 12 ∧ r.bf.v.o.refs.length ≤ 12; omega, by have := HSH.out.af; show r.af.v.o.ints.length ≤ 12 ∧ r.af.v.o.refs.length ≤ 12; omega, by have := HSH.out.txs; show r.txs.length ≤ 12; omega⟩
    obtain ⟨WF, hWF, hwF, hsF, HTF, HLF, _⟩ := rec_out ⟨r.lsn, r.tx, r.prev, r.kind, nv, r.bf, r.af, r.next, r.txs, r.aL, r.cL⟩ _ rfl bR
    have oT : RecA.own WF lo WF.heap.size ⟨r.lsn, r.tx, r.prev, r.kind, nv, r.bf, r.af, r.next, r.txs, r.aL, r.cL⟩ := (⟨OwnO.widen (OwnO.within ho.bf hwF (by omega)) (Nat.le_refl _) (by omega) (Nat.le_refl _), OwnO.widen (OwnO.within ho.af hwF (by omega)) (Nat.le_refl _) (by omega) (Nat.le_refl _), (ho.txs.within hwF (by omega)).widen (Nat.le_refl _) (by omega) (Nat.le_refl _), ho.apart⟩)
    have HBL : Hid (∀ k ∈ RecA.blocks ⟨r.lsn, r.tx, r.prev, r.kind, nv, r.bf, r.af, r.next, r.txs, r.aL, r.cL⟩, k < hi ∨ w.heap.size ≤ k) := fun k hk => .inl (ho.blocks_lt k hk).2
    have HF : Hid (BentAt lo hi w WF B zs (.returned (.agg (RecA.cells ⟨r.lsn, r.tx, r.prev, r.kind, nv, r.bf, r.af, r.next, r.txs, r.aL, r.cL⟩).toArray))) := ⟨_, rfl, HST.out, oT, HBL.out, hc.within hwF (by omega), HW.new hwF (by omega)⟩
    have rT : v4.rangeAt w.heap.size 0 (RecA.cells ⟨r.lsn, r.tx, r.prev, r.kind, nv, r.bf, r.af, r.next, r.txs, r.aL, r.cL⟩) := Box.range [] _ [] (by simpa using bT)
    clear hwF hsF bX oT HBL
    generalize hT : ((⟨r.lsn, r.tx, r.prev, r.kind, nv, r.bf, r.af, r.next, r.txs, r.aL, r.cL⟩) : RecA) = TT at *
    clear hT
    go_wp2_with (first | (guard_target = wpList _ _ _ (Oper.mk (some 63) _ _ _ _ _ :: _) _ _; refine wpList_load_mid rfl 42 (.tmp 3) rfl w.heap.size 0 rfl TT.cells _ rT Tryz.underlying42 rfl (rec_info _) ?_) | (guard_target = wpList _ _ _ (Oper.mk none (Op.store _ (Operand.tmp 4) _) _ _ _ _ :: _) _ _; refine wpList_store_mid rfl 42 (.tmp 4) (.tmp 63) rfl (w.heap.size + 1) 0 TT.cells.toArray rfl rfl HTF.out (by rw [List.size_toArray]; exact rec_info _) (rec_one _) ?_) | fail)
    rw [hWF.out]
    exact bodyPost_ret (v := .agg TT.cells.toArray) (results_one Tryz.results48 rfl HLF.out) rfl HF.out
  case neg =>
  by_cases q5 : x = 5
  case pos =>
    have t5_ : ((x : Int) == 5) = true := by simp; omega
    have f0_ : ((x : Int) == 0) = false := by simp; omega
    have f1_ : ((x : Int) == 1) = false := by simp; omega
    have f2_ : ((x : Int) == 2) = false := by simp; omega
    have f3_ : ((x : Int) == 3) = false := by simp; omega
    have f4_ : ((x : Int) == 4) = false := by simp; omega
    clear q0 q1 q2 q3 q4 q5
    have k0 := bX.cell 0 _ rfl
    obtain ⟨v2, hv2, bI, hbv2, ev2⟩ := boxes1 v1 [.int .i64 (1), .int .i64 (-1), .int .i64 (r.lsn)] 3
    have lIv2 := bI.lt
    clear ev2
    go_wp2_with fail
    rw [hv2.out]
    clear hv2
    have sv2 := hbv2.size
    replace hc := hc.below hbv2
    replace bR := bR.below hbv2 bR.lt
    replace bX := bX.below hbv2 bX.lt
    replace ho := ho.below hbv2
    replace HW := HW.trans (Within.of_below hbv2)
    clear hbv2
    refine (l1Int_any B zs (some ⟨v1.heap.size, 0, none⟩) 3 [1, -1, r.lsn] v2 hc hl (readsI_box [1, -1, r.lsn] bI) (fun b off h => by cases h; omega) (by simp) (by simp)).mono ?_
    clear hc bI
    rintro e v3 ⟨jv3, hjv3, rfl, hc, hgv3⟩
    generalize ([1, -1, r.lsn] : List Int).getD jv3 0 = nv at *
    clear hjv3
    have hwv3 := within_cur hgv3
    clear hgv3
    have sv3 := hwv3.size
    replace bR := bR.within hwv3 (by omega)
    replace bX := bX.within hwv3 (by omega)
    replace ho := ho.within hwv3 (by omega)
    replace HW := HW.trans hwv3
    clear hwv3
    clear k0
    have cx13 := bX.cell 13 _ rfl
    have cf13 := bX.frozen 13
    obtain ⟨v4, hv4, bX2, hwv4, ev4⟩ := box_set bX 13 (.int .i64 nv)
    have e1v4 := Nat.le_of_eq ev4
    have e2v4 := Nat.le_of_eq ev4.symm
    clear ev4
    simp only [List.set] at bX2
    replace hc := hc.within hwv4 (by omega)
    replace bR := bR.within hwv4 (by omega)
    replace ho := ho.within hwv4 (by omega)
    replace HW := HW.new hwv4 (by omega)
    clear bX hwv4
    have bX := bX2
    clear bX2
    go_upto_region 16 with fail
    rw [hv4.out]
    clear hv4 cx13 cf13
    have bT : Box v4 w.heap.size (RecA.cells ⟨r.lsn, r.tx, r.prev, r.kind, r.oid, r.bf, r.af, nv, r.txs, r.aL, r.cL⟩) 42 := bX
    have HST : Hid (RecA.short ⟨r.lsn, r.tx, r.prev, r.kind, r.oid, r.bf, r.af, nv, r.txs, r.aL, r.cL⟩ 12) := ⟨by have := HSH.out.bf; show r.bf.v.o.ints.length ≤ 12 ∧ r.bf.v.o.refs.length ≤ 12; omega, by have := HSH.out.af; show r.af.v.o.ints.length ≤ 12 ∧ r.af.v.o.refs.length ≤ 12; omega, by have := HSH.out.txs; show r.txs.length ≤ 12; omega⟩
    obtain ⟨WF, hWF, hwF, hsF, HTF, HLF, _⟩ := rec_out ⟨r.lsn, r.tx, r.prev, r.kind, r.oid, r.bf, r.af, nv, r.txs, r.aL, r.cL⟩ _ rfl bR
    have oT : RecA.own WF lo WF.heap.size ⟨r.lsn, r.tx, r.prev, r.kind, r.oid, r.bf, r.af, nv, r.txs, r.aL, r.cL⟩ := (⟨OwnO.widen (OwnO.within ho.bf hwF (by omega)) (Nat.le_refl _) (by omega) (Nat.le_refl _), OwnO.widen (OwnO.within ho.af hwF (by omega)) (Nat.le_refl _) (by omega) (Nat.le_refl _), (ho.txs.within hwF (by omega)).widen (Nat.le_refl _) (by omega) (Nat.le_refl _), ho.apart⟩)
    have HBL : Hid (∀ k ∈ RecA.blocks ⟨r.lsn, r.tx, r.prev, r.kind, r.oid, r.bf, r.af, nv, r.txs, r.aL, r.cL⟩, k < hi ∨ w.heap.size ≤ k) := fun k hk => .inl (ho.blocks_lt k hk).2
    have HF : Hid (BentAt lo hi w WF B zs (.returned (.agg (RecA.cells ⟨r.lsn, r.tx, r.prev, r.kind, r.oid, r.bf, r.af, nv, r.txs, r.aL, r.cL⟩).toArray))) := ⟨_, rfl, HST.out, oT, HBL.out, hc.within hwF (by omega), HW.new hwF (by omega)⟩
    have rT : v4.rangeAt w.heap.size 0 (RecA.cells ⟨r.lsn, r.tx, r.prev, r.kind, r.oid, r.bf, r.af, nv, r.txs, r.aL, r.cL⟩) := Box.range [] _ [] (by simpa using bT)
    clear hwF hsF bX oT HBL
    generalize hT : ((⟨r.lsn, r.tx, r.prev, r.kind, r.oid, r.bf, r.af, nv, r.txs, r.aL, r.cL⟩) : RecA) = TT at *
    clear hT
    go_wp2_with (first | (guard_target = wpList _ _ _ (Oper.mk (some 63) _ _ _ _ _ :: _) _ _; refine wpList_load_mid rfl 42 (.tmp 3) rfl w.heap.size 0 rfl TT.cells _ rT Tryz.underlying42 rfl (rec_info _) ?_) | (guard_target = wpList _ _ _ (Oper.mk none (Op.store _ (Operand.tmp 4) _) _ _ _ _ :: _) _ _; refine wpList_store_mid rfl 42 (.tmp 4) (.tmp 63) rfl (w.heap.size + 1) 0 TT.cells.toArray rfl rfl HTF.out (by rw [List.size_toArray]; exact rec_info _) (rec_one _) ?_) | fail)
    rw [hWF.out]
    exact bodyPost_ret (v := .agg TT.cells.toArray) (results_one Tryz.results48 rfl HLF.out) rfl HF.out
  case neg =>
  by_cases q6 : x = 6
  case neg =>
    have f0_ : ((x : Int) == 0) = false := by simp; omega
    have f1_ : ((x : Int) == 1) = false := by simp; omega
    have f2_ : ((x : Int) == 2) = false := by simp; omega
    have f3_ : ((x : Int) == 3) = false := by simp; omega
    have f4_ : ((x : Int) == 4) = false := by simp; omega
    have f5_ : ((x : Int) == 5) = false := by simp; omega
    have f6_ : ((x : Int) == 6) = false := by simp; omega
    clear q0 q1 q2 q3 q4 q5 q6
    go_upto_region 16 with fail
    have bT : Box v1 w.heap.size (RecA.cells ⟨r.lsn, r.tx, r.prev, r.kind, r.oid, r.bf, r.af, r.next, r.txs, r.aL, r.cL⟩) 42 := bX
    have HST : Hid (RecA.short ⟨r.lsn, r.tx, r.prev, r.kind, r.oid, r.bf, r.af, r.next, r.txs, r.aL, r.cL⟩ 12) := ⟨by have := HSH.out.bf; show r.bf.v.o.ints.length ≤ 12 ∧ r.bf.v.o.refs.length ≤ 12; omega, by have := HSH.out.af; show r.af.v.o.ints.length ≤ 12 ∧ r.af.v.o.refs.length ≤ 12; omega, by have := HSH.out.txs; show r.txs.length ≤ 12; omega⟩
    obtain ⟨WF, hWF, hwF, hsF, HTF, HLF, _⟩ := rec_out ⟨r.lsn, r.tx, r.prev, r.kind, r.oid, r.bf, r.af, r.next, r.txs, r.aL, r.cL⟩ _ rfl bR
    have oT : RecA.own WF lo WF.heap.size ⟨r.lsn, r.tx, r.prev, r.kind, r.oid, r.bf, r.af, r.next, r.txs, r.aL, r.cL⟩ := (⟨OwnO.widen (OwnO.within ho.bf hwF (by omega)) (Nat.le_refl _) (by omega) (Nat.le_refl _), OwnO.widen (OwnO.within ho.af hwF (by omega)) (Nat.le_refl _) (by omega) (Nat.le_refl _), (ho.txs.within hwF (by omega)).widen (Nat.le_refl _) (by omega) (Nat.le_refl _), ho.apart⟩)
    have HBL : Hid (∀ k ∈ RecA.blocks ⟨r.lsn, r.tx, r.prev, r.kind, r.oid, r.bf, r.af, r.next, r.txs, r.aL, r.cL⟩, k < hi ∨ w.heap.size ≤ k) := fun k hk => .inl (ho.blocks_lt k hk).2
    have HF : Hid (BentAt lo hi w WF B zs (.returned (.agg (RecA.cells ⟨r.lsn, r.tx, r.prev, r.kind, r.oid, r.bf, r.af, r.next, r.txs, r.aL, r.cL⟩).toArray))) := ⟨_, rfl, HST.out, oT, HBL.out, hc.within hwF (by omega), HW.new hwF (by omega)⟩
    have rT : v1.rangeAt w.heap.size 0 (RecA.cells ⟨r.lsn, r.tx, r.prev, r.kind, r.oid, r.bf, r.af, r.next, r.txs, r.aL, r.cL⟩) := Box.range [] _ [] (by simpa using bT)
    clear hwF hsF bX oT HBL
    generalize hT : ((⟨r.lsn, r.tx, r.prev, r.kind, r.oid, r.bf, r.af, r.next, r.txs, r.aL, r.cL⟩) : RecA) = TT at *
    clear hT
    go_wp2_with (first | (guard_target = wpList _ _ _ (Oper.mk (some 63) _ _ _ _ _ :: _) _ _; refine wpList_load_mid rfl 42 (.tmp 3) rfl w.heap.size 0 rfl TT.cells _ rT Tryz.underlying42 rfl (rec_info _) ?_) | (guard_target = wpList _ _ _ (Oper.mk none (Op.store _ (Operand.tmp 4) _) _ _ _ _ :: _) _ _; refine wpList_store_mid rfl 42 (.tmp 4) (.tmp 63) rfl (w.heap.size + 1) 0 TT.cells.toArray rfl rfl HTF.out (by rw [List.size_toArray]; exact rec_info _) (rec_one _) ?_) | fail)
    rw [hWF.out]
    exact bodyPost_ret (v := .agg TT.cells.toArray) (results_one Tryz.results48 rfl HLF.out) rfl HF.out
  case pos =>
    have t6_ : ((x : Int) == 6) = true := by simp; omega
    have f0_ : ((x : Int) == 0) = false := by simp; omega
    have f1_ : ((x : Int) == 1) = false := by simp; omega
    have f2_ : ((x : Int) == 2) = false := by simp; omega
    have f3_ : ((x : Int) == 3) = false := by simp; omega
    have f4_ : ((x : Int) == 4) = false := by simp; omega
    have f5_ : ((x : Int) == 5) = false := by simp; omega
    clear q0 q1 q2 q3 q4 q5 q6
    obtain ⟨v2, hv2, bE, hbv2, ev2⟩ := boxes1 v1 [] 62
    clear ev2
    have lE := bE.lt
    have oE : OwnL v2 v1.heap.size v2.heap.size (some ⟨v1.heap.size, 0, none⟩) 0 [] := by
      have h1 : OwnL (v1.alloc (.cells #[] 62)) v1.heap.size (v1.alloc (.cells #[] 62)).heap.size (some ⟨v1.heap.size, 0, none⟩) 0 [] := by
        refine ⟨World.ownsRow_lit (size := 3) v1 #[] 0 (Nat.le_refl _) (by simp [maxLen]) rfl, Nat.le_refl _, fun k hk => ?_⟩
        simp [Value.ownBlock] at hk
        try (rw [World.size_alloc]; omega)
      have h2 : v1.alloc (.cells #[] 62) = v2 := hv2.out
      rw [h2] at h1
      exact h1
    have sv2 := hbv2.size
    replace hc := hc.below hbv2
    replace bR := bR.below hbv2 bR.lt
    replace bX := bX.below hbv2 bX.lt
    replace ho := ho.below hbv2
    replace HW := HW.trans (Within.of_below hbv2)
    clear hbv2
    have k14 := bX.cell 14 _ rfl
    have hA1 : ([] : List LiveV).length + r.txs.length ≤ 1099511627776 := by have := HSH.out.txs; simp only [List.length_nil]; omega
    have k14' : (v1.alloc (.cells #[] 62)).cell? ⟨w.heap.size, 14, none⟩ = some (.slice r.aL r.txs.length r.cL) := by have h2 : v1.alloc (.cells #[] 62) = v2 := hv2.out; rw [h2]; exact k14
    have hrt : ReadsL v2 r.aL r.txs := ho.txs.reads
    have hnc := ho.txs.nocap
    go_wp2_with (at_builtin; refine append_lives rfl _ _ rfl v1.heap.size _ (some ⟨v1.heap.size, 0, none⟩) 0 [] rfl (by rw [hv2.out]; exact oE) r.aL r.cL r.txs rfl (by rw [hv2.out]; exact hrt) hnc hA1 (by rw [hv2.out]; omega) ?_)
    intro a9 c9 ys w9 hys o9 g9
    rw [hv2.out] at g9
    have hw9 : Within v1.heap.size v2.heap.size v2 w9 := Within.of_grown g9 (fun j hj => oE.lt j hj)
    have HYS : Hid (ys = r.txs) := hys.out.trans (List.nil_append _)
    clear hys g9 oE hv2 k14 k14' hrt hnc hA1 bE
    have z9 := hw9.size
    replace hc := hc.within hw9 (by omega)
    replace bX := bX.within hw9 (by omega)
    replace bR := bR.within hw9 (by omega)
    replace ho := ho.within hw9 (by omega)
    replace HW := HW.new hw9 (by omega)
    clear hw9
    obtain ⟨v3, hv3, bI, hbv3, ev3⟩ := boxes1 w9 [.int .i64 (1), .int .i64 (9), .int .i64 (0)] 3
    have lIv3 := bI.lt
    clear ev3
    go_wp2_with fail
    rw [hv3.out]
    clear hv3
    have sv3 := hbv3.size
    replace hc := hc.below hbv3
    replace bR := bR.below hbv3 bR.lt
    replace bX := bX.below hbv3 bX.lt
    replace ho := ho.below hbv3
    replace o9 := o9.below hbv3
    replace HW := HW.trans (Within.of_below hbv3)
    clear hbv3
    refine (l1Int_any B zs (some ⟨w9.heap.size, 0, none⟩) 3 [1, 9, 0] v3 hc hl (readsI_box [1, 9, 0] bI) (fun b off h => by cases h; omega) (by simp) (by simp)).mono ?_
    clear hc bI
    rintro e v4 ⟨jv4, hjv4, rfl, hc, hgv4⟩
    generalize ([1, 9, 0] : List Int).getD jv4 0 = na at *
    clear hjv4
    have hwv4 := within_cur hgv4
    clear hgv4
    have sv4 := hwv4.size
    replace bR := bR.within hwv4 (by omega)
    replace bX := bX.within hwv4 (by omega)
    replace ho := ho.within hwv4 (by omega)
    replace o9 := o9.within hwv4 (by omega)
    replace HW := HW.trans hwv4
    clear hwv4
    obtain ⟨v5, hv5, bI, hbv5, ev5⟩ := boxes1 v4 [.int .i64 (0), .int .i64 (1), .int .i64 (99)] 3
    have lIv5 := bI.lt
    clear ev5
    go_wp2_with fail
    rw [hv5.out]
    clear hv5
    have sv5 := hbv5.size
    replace hc := hc.below hbv5
    replace bR := bR.below hbv5 bR.lt
    replace bX := bX.below hbv5 bX.lt
    replace ho := ho.below hbv5
    replace o9 := o9.below hbv5
    replace HW := HW.trans (Within.of_below hbv5)
    clear hbv5
    refine (l1Int_any B zs (some ⟨v4.heap.size, 0, none⟩) 3 [0, 1, 99] v5 hc hl (readsI_box [0, 1, 99] bI) (fun b off h => by cases h; omega) (by simp) (by simp)).mono ?_
    clear hc bI
    rintro e v6 ⟨jv6, hjv6, rfl, hc, hgv6⟩
    generalize ([0, 1, 99] : List Int).getD jv6 0 = nb at *
    clear hjv6
    have hwv6 := within_cur hgv6
    clear hgv6
    have sv6 := hwv6.size
    replace bR := bR.within hwv6 (by omega)
    replace bX := bX.within hwv6 (by omega)
    replace ho := ho.within hwv6 (by omega)
    replace o9 := o9.within hwv6 (by omega)
    replace HW := HW.trans hwv6
    clear hwv6
    have hrz := readsL_one v6 ⟨na, nb, false⟩ 62
    simp only at hrz
    have hbA : Below v6.heap.size v6 (v6.alloc (.cells #[.int .i64 na, .int .i64 nb, .bool false] 62)) := (Below.refl _ _).alloc (Nat.le_refl _) _
    have zA := hbA.size
    have oLA := o9.below hbA
    have hA1 : ys.length + ([⟨na, nb, false⟩] : List LiveV).length ≤ 1099511627776 := by have := HSH.out.txs; rw [HYS.out]; simp only [List.length_cons, List.length_nil]; omega
    have hA2 : v1.heap.size ≤ (v6.alloc (.cells #[.int .i64 na, .int .i64 nb, .bool false] 62)).heap.size := by rw [World.size_alloc]; omega
    go_wp2_with (at_builtin; refine append_lives rfl _ _ rfl v1.heap.size _ a9 c9 ys rfl oLA (some ⟨v6.heap.size, 0, none⟩) 1 [⟨na, nb, false⟩] rfl hrz (fun h => by cases h) hA1 hA2 ?_)
    intro a10 c10 y10 w10 hy10 o10 g10
    have hw10 : Within v1.heap.size w9.heap.size (v6.alloc (.cells #[.int .i64 na, .int .i64 nb, .bool false] 62)) w10 := Within.of_grown g10 (fun j hj => oLA.lt j hj)
    have HYL : Hid (y10.length ≤ 11) := by rw [Hid, hy10.out, HYS.out]; have := HSH.out.txs; simp; omega
    clear hy10 g10 oLA hrz hA1 hA2 o9
    have z10 := hw10.size
    replace hc := (hc.below hbA).within hw10 (by omega)
    replace bX := (bX.below hbA bX.lt).within hw10 (by omega)
    replace bR := (bR.below hbA bR.lt).within hw10 (by omega)
    replace ho := (ho.below hbA).within hw10 (by omega)
    replace HW := (HW.trans (Within.of_below hbA)).new hw10 (by omega)
    clear hw10 hbA
    have cx14 := bX.cell 14 _ rfl
    have cf14 := bX.frozen 14
    obtain ⟨v7, hv7, bX2, hwv7, ev7⟩ := box_set bX 14 (.slice a10 y10.length c10)
    have e1v7 := Nat.le_of_eq ev7
    have e2v7 := Nat.le_of_eq ev7.symm
    clear ev7
    simp only [List.set] at bX2
    replace hc := hc.within hwv7 (by omega)
    replace bR := bR.within hwv7 (by omega)
    replace ho := ho.within hwv7 (by omega)
    replace o10 := o10.within hwv7 (by omega)
    replace HW := HW.new hwv7 (by omega)
    clear bX hwv7
    have bX := bX2
    clear bX2
    go_upto_region 16 with fail
    rw [hv7.out]
    clear hv7 cx14 cf14
    have bT : Box v7 w.heap.size (RecA.cells ⟨r.lsn, r.tx, r.prev, r.kind, r.oid, r.bf, r.af, r.next, y10, a10, c10⟩) 42 := bX
    have HST : Hid (RecA.short ⟨r.lsn, r.tx, r.prev, r.kind, r.oid, r.bf, r.af, r.next, y10, a10, c10⟩ 12) := ⟨by have := HSH.out.bf; show r.bf.v.o.ints.length ≤ 12 ∧ r.bf.v.o.refs.length ≤ 12; omega, by have := HSH.out.af; show r.af.v.o.ints.length ≤ 12 ∧ r.af.v.o.refs.length ≤ 12; omega, by have := HYL.out; show y10.length ≤ 12; omega⟩
    obtain ⟨WF, hWF, hwF, hsF, HTF, HLF, _⟩ := rec_out ⟨r.lsn, r.tx, r.prev, r.kind, r.oid, r.bf, r.af, r.next, y10, a10, c10⟩ _ rfl bR
    have oT : RecA.own WF lo WF.heap.size ⟨r.lsn, r.tx, r.prev, r.kind, r.oid, r.bf, r.af, r.next, y10, a10, c10⟩ := (own_fresh (ho.within hwF (by omega)) ((o10.within hwF (by omega)).widen (Nat.le_refl _) (by omega) (Nat.le_refl _)) (by omega) (by omega) (by omega))
    have HBL : Hid (∀ k ∈ RecA.blocks ⟨r.lsn, r.tx, r.prev, r.kind, r.oid, r.bf, r.af, r.next, y10, a10, c10⟩, k < hi ∨ w.heap.size ≤ k) := (by intro k hk; simp only [RecA.blocks, List.mem_append, Option.mem_toList] at hk; rcases hk with h1 | h1 | h1 <;> first | exact .inl (SlotA.blocks_lt ho.bf k h1).2 | exact .inl (SlotA.blocks_lt ho.af k h1).2 | exact .inr (by have := (o10.lt k h1).1; omega))
    have HF : Hid (BentAt lo hi w WF B zs (.returned (.agg (RecA.cells ⟨r.lsn, r.tx, r.prev, r.kind, r.oid, r.bf, r.af, r.next, y10, a10, c10⟩).toArray))) := ⟨_, rfl, HST.out, oT, HBL.out, hc.within hwF (by omega), HW.new hwF (by omega)⟩
    have rT : v7.rangeAt w.heap.size 0 (RecA.cells ⟨r.lsn, r.tx, r.prev, r.kind, r.oid, r.bf, r.af, r.next, y10, a10, c10⟩) := Box.range [] _ [] (by simpa using bT)
    clear hwF hsF bX oT HBL
    generalize hT : ((⟨r.lsn, r.tx, r.prev, r.kind, r.oid, r.bf, r.af, r.next, y10, a10, c10⟩) : RecA) = TT at *
    clear hT
    go_wp2_with (first | (guard_target = wpList _ _ _ (Oper.mk (some 63) _ _ _ _ _ :: _) _ _; refine wpList_load_mid rfl 42 (.tmp 3) rfl w.heap.size 0 rfl TT.cells _ rT Tryz.underlying42 rfl (rec_info _) ?_) | (guard_target = wpList _ _ _ (Oper.mk none (Op.store _ (Operand.tmp 4) _) _ _ _ _ :: _) _ _; refine wpList_store_mid rfl 42 (.tmp 4) (.tmp 63) rfl (w.heap.size + 1) 0 TT.cells.toArray rfl rfl HTF.out (by rw [List.size_toArray]; exact rec_info _) (rec_one _) ?_) | fail)
    rw [hWF.out]
    exact bodyPost_ret (v := .agg TT.cells.toArray) (results_one Tryz.results48 rfl HLF.out) rfl HF.out

end Go.Proofs.YtickiokdcbeefaaGreatDoor

/- A drawn log: the walks of spec.l5Draw, spec.l5DrawAny. -/
namespace Go.Proofs.YtickiokdcbeefaaGreatDoor
open Go.RowKit
attribute [local go_sem ↓] Go.wp_at_zero Go.wp_at_succ

theorem log_part {e : EngA} (h : e.shape) : e.cells.toArray.extract 138 140 = e.log.cells.toArray := by
  have e1 : e.cells = cellsPs e.disk ++ e.tail := rfl
  have hl := EngA.disk_len h
  apply Array.ext'
  rw [Array.toList_extract]
  show List.extract e.cells 138 140 = _
  rw [List.extract_eq_take_drop, e1, List.drop_append, hl, List.drop_eq_nil_of_le (by omega)]
  rfl
set_option maxHeartbeats 1000000 in
set_option maxRecDepth 100000 in
theorem run_log {e : EngA} (h : e.shape) (w : World) : (Instr.field 105 (.agg e.cells.toArray) 2).run Tryz.prog w = .ok (.agg e.log.cells.toArray) w := by
  have hp := log_part h
  generalize e.cells.toArray = cs at *
  have e2 : (Instr.field 105 (.agg cs) 2).run Tryz.prog w = .ok (.agg (cs.extract 138 140)) w := by kernel_rfl
  rw [e2, hp]
theorem own_raise {w : World} {lo lo' hi : Nat} {a : Option Addr} {c : Nat} {rs : List RecA} (h : OwnRs w lo hi a c rs) (hb : ∀ k ∈ blocksRs a c rs, lo' ≤ k) : OwnRs w lo' hi a c rs := by
  refine ⟨ownsRow_base h.row (fun k hk => hb k (List.mem_append.2 (.inl (Option.mem_toList.2 hk)))), h.top, h.blk, fun r hr => ?_, h.apart⟩
  have hr1 := h.each r hr
  have hk : ∀ k ∈ r.blocks, lo' ≤ k := fun k hk => hb k (List.mem_append.2 (.inr (List.mem_flatMap.2 ⟨r, hr, hk⟩)))
  simp only [RecA.blocks, SlotA.blocks, List.mem_append, Option.mem_toList] at hk
  exact ⟨⟨⟨ownsRow_base hr1.bf.ints.1 (fun k h1 => hk k (.inl (.inl h1))), hr1.bf.ints.2⟩, ⟨ownsRow_base hr1.bf.refs.1 (fun k h1 => hk k (.inl (.inr h1))), hr1.bf.refs.2⟩, hr1.bf.apart⟩, ⟨⟨ownsRow_base hr1.af.ints.1 (fun k h1 => hk k (.inr (.inl (.inl h1)))), hr1.af.ints.2⟩, ⟨ownsRow_base hr1.af.refs.1 (fun k h1 => hk k (.inr (.inl (.inr h1)))), hr1.af.refs.2⟩, hr1.af.apart⟩, ⟨ownsRow_base hr1.txs.1 (fun k h1 => hk k (.inr (.inr h1))), hr1.txs.2⟩, hr1.apart⟩
/-- A write into a block that is new since w. -/
theorem within_new {B C : Nat} {w W w1 WF : World} (hbW : Below w.heap.size w W) (h1 : Within B (B + 1) W w1) (hF : Within C (C + 1) w1 WF) (hC : w.heap.size ≤ C) : Within B (B + 1) w WF :=
  ⟨hF.os.trans (h1.os.trans hbW.os), hF.tape.trans (h1.tape.trans hbW.tape), hF.output.trans (h1.output.trans hbW.output), Nat.le_trans hbW.size (Nat.le_trans h1.size hF.size), fun k hk hn => (hF.block k (by have := hbW.size; have := h1.size; omega) (by omega)).trans ((h1.block k (by have := hbW.size; omega) hn).trans (hbW.block k hk))⟩
/-- What a draw of a log answers. -/
def LogDrawn (B : Nat) (zs : List Int) (w : World) (r : Ending) (w' : World) : Prop := ∃ l : LogA, r = .returned (.agg l.cells.toArray) ∧ l.own w' w.heap.size w'.heap.size ∧ l.recs.length ≤ 262144 ∧ (∀ x ∈ l.recs, x.short 10) ∧ CurAt w' B zs ∧ Within B (B + 1) w w'
set_option maxHeartbeats 4000000 in
set_option maxRecDepth 100000 in
theorem l5Draw_any (B : Nat) (zs : List Int) (n : Int) (w : World) (hc : CurAt w B zs) (hl : zs.length ≤ 70368744177664) (hn0 : 0 < n) (hn : n ≤ 17) :
    Calls Tryz.prog 47 #[.pointer (some ⟨B, 0, none⟩), .int .i64 n] w fun r w' => LogDrawn B zs w r w' := by
  obtain ⟨W, hW, b0, hbW, hsW⟩ := boxes1 w [.slice none 0 0, .int .i64 0] 26
  have hW' : Hid (w.alloc (.cells #[.slice none 0 0, .int .i64 0] 26) = W) := hW.out
  have C := l7Draw_any B zs n W (hc.below hbW) hl hn0 hn
  have hBl := hc.lt
  have hws : w.heap.size < W.heap.size := by omega
  clear hW hsW
  go_enter Tryz.func47, Tryz.ntmps47
  go_wp2_with fail
  rw [hW'.out]
  refine C.mono ?_
  clear C hW'
  rintro r w1 ⟨e, i, rfl, hi, hd, hsh, ho, hfr, hc1, hw1⟩
  have hf := run_log hsh w1
  have b1 := b0.within hw1 (by omega)
  obtain ⟨WF, hWF, hwF, hsF, HTF, HLF, bF⟩ := log_out e.log _ rfl b1
  have hs1 := hw1.size
  have hlen : e.log.recs.length ≤ 262144 := by
    have h1 := hd.len
    have h2 : 2 ^ (i + 2) ≤ 2 ^ 18 := Nat.pow_le_pow_right (by omega) (by omega)
    have h3 : e.v.log.recs.length = e.log.recs.length := by simp [EngA.v, LogA.v]
    omega
  have hshort : ∀ x ∈ e.log.recs, x.short 10 := fun x hx => by
    have h1 := hd.sound.recs x.v (List.mem_map_of_mem hx)
    exact ⟨h1.1, h1.2.1, h1.2.2⟩
  have hfr' : ∀ k ∈ blocksRs e.log.a e.log.c e.log.recs, W.heap.size ≤ k := fun k hk => hfr k (EngA.mem_log hk)
  have ho1 : e.log.own w1 W.heap.size w1.heap.size := own_raise ho.log hfr'
  have hoF : e.log.own WF w.heap.size WF.heap.size := (LogA.own.within ho1 hwF (.inr (by omega))).widen (by omega) (by omega) (Nat.le_refl _)
  have hcF := hc1.within hwF (by omega)
  have hWin : Within B (B + 1) w WF := within_new hbW hw1 hwF (Nat.le_refl _)
  have HEND : Hid (LogDrawn B zs w (.returned (.agg e.log.cells.toArray)) WF) := ⟨e.log, rfl, hoF, hlen, hshort, hcF, hWin⟩
  have HO := log_one e.log
  have HI : Hid ((Tryz.prog.info? 26).map (·.size) = some e.log.cells.toArray.size) := log_info e.log
  have hWF' : Hid (w1.setCells w.heap.size 0 e.log.cells.toArray.toList = WF) := hWF.out
  clear hoF hcF hWin ho1 hfr' hshort hlen bF hwF hsF b1 hd ho hWF
  go_wp2_with (first | (guard_target = wpList _ _ _ (Oper.mk none (Op.store _ (Operand.tmp 4) _) _ _ _ _ :: _) _ _; refine wpList_store_mid rfl 26 (.tmp 4) (.tmp 8) rfl w.heap.size 0 e.log.cells.toArray rfl rfl HTF.out HI.out HO ?_; rw [hWF'.out]) | fail)
  exact bodyPost_ret (v := .agg e.log.cells.toArray) (results_one Tryz.results47 rfl HLF.out) rfl HEND.out
end Go.Proofs.YtickiokdcbeefaaGreatDoor

/- The walks of spec.Tear and impl.Tear. -/
namespace Go.Proofs.YtickiokdcbeefaaGreatDoor
open Go.RowKit

/-- The first of a row. -/
theorem ReadsRs.take {w : World} {a : Option Addr} {rs : List RecA} (h : ReadsRs w a rs) (j : Nat) : ReadsRs w a (rs.take j) := by
  intro hne
  have hne' : rs ≠ [] := by rintro rfl; simp at hne
  obtain ⟨b, off, ha, hc⟩ := h hne'
  refine ⟨b, off, ha, fun k hk => ?_⟩
  rw [List.length_take] at hk
  have e : (rs.take j).getD k zeroR = rs.getD k zeroR := by simp [List.getD, show k < j by omega]
  rw [e]
  exact hc k (by omega)
theorem OwnRs.take {w : World} {lo hi : Nat} {a : Option Addr} {c : Nat} {rs : List RecA} (h : OwnRs w lo hi a c rs) (j : Nat) (hj : j ≤ rs.length) : OwnRs w lo hi a c (rs.take j) := by
  have hl : (rs.take j).length = j := by rw [List.length_take]; omega
  have hob : (Value.slice a (rs.take j).length c).ownBlock = (Value.slice a rs.length c).ownBlock := by cases a <;> rfl
  refine ⟨?_, h.top, fun k hk => h.blk k (by rw [← hob]; exact hk), fun r hr => h.each r (List.mem_of_mem_take hr), ?_⟩
  · have hcl : cellsRs (rs.take j) = (cellsRs rs).take (j * 15) := by
      have e2 : cellsRs rs = cellsRs (rs.take j) ++ cellsRs (rs.drop j) := by rw [← cellsRs_app, List.take_append_drop]
      rw [e2]
      exact (List.take_left' (by rw [cellsRs_len, hl])).symm
    refine ⟨by rw [cellsRs_len], ?_⟩
    rcases h.row.2 with ⟨hv, h0⟩ | ⟨g, cap, cur, hv, hg, hgg, h1, h2, h3, h4⟩
    · simp only [Value.slice.injEq] at hv
      refine .inl ⟨?_, by omega⟩
      rw [hv.1, hv.2.2, show (rs.take j).length = 0 by omega]
    · simp only [Value.slice.injEq] at hv
      refine .inr ⟨g, cap, cur, ?_, hg, hgg, by omega, h2, h3, ?_⟩
      · rw [hv.1, hv.2.2]
      · rw [hcl, ← h4, List.take_take, hl]
        congr 1
        have := Nat.mul_le_mul_right 15 hj
        omega
  · rw [hob]
    have hap := h.apart
    have e : rs.flatMap RecA.blocks = (rs.take j).flatMap RecA.blocks ++ (rs.drop j).flatMap RecA.blocks := by rw [← List.flatMap_append, List.take_append_drop]
    rw [e, ← List.append_assoc] at hap
    exact (List.nodup_append.1 hap).1
theorem OwnRs.capLen {w : World} {lo hi : Nat} {a : Option Addr} {c : Nat} {rs : List RecA} (h : OwnRs w lo hi a c rs) : rs.length ≤ c := by
  rcases h.row.2 with ⟨hv', h00⟩ | ⟨g, cap, cur, hv', _, _, h1, _⟩
  · omega
  · simp only [Value.slice.injEq] at hv'; omega
theorem OwnRs.nilLen {w : World} {lo hi : Nat} {a : Option Addr} {c : Nat} {rs : List RecA} (h : OwnRs w lo hi a c rs) : a = none → rs.length = 0 ∧ c = 0 := fun ha => by
  have h1 := h.nocap ha
  have h2 := h.capLen
  exact ⟨by omega, h1⟩

set_option maxHeartbeats 1000000 in
theorem sureLog_any (a : Option Addr) (c m : Nat) (w : World) :
    Calls Tryz.prog 32 #[.slice a m c] w fun e w' => e = .returned (.agg #[.slice a m c, .int .i64 m]) ∧ Below w.heap.size w w' := by
  obtain ⟨W, hW, b0, hbW, hsW⟩ := boxes1 w [.slice a m c, .int .i64 m] 26
  have q0 := b0.cell 0 _ rfl
  have q1 := b0.cell 1 _ rfl
  clear b0 hsW
  go_enter Tryz.func32, Tryz.ntmps32
  go_wp2
  rw [hW.out]
  exact bodyPost_ret (v := .agg #[.slice a m c, .int .i64 m]) (by simp [results, Tryz.results32, go_sem, q0, q1]) rfl ⟨rfl, hbW⟩

end Go.Proofs.YtickiokdcbeefaaGreatDoor
