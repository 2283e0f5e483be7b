/- Several texts in one, in their order. -/
import Derived.Test.YtickiokdcbeefaaGreatDoorPFnAppendedx24
import Derived.Test.YtickiokdcbeefaaGreatDoorPFnAppendedx10
import Derived.Test.YtickiokdcbeefaaGreatDoorPFnAppendedx9
import Derived.Test.YtickiokdcbeefaaGreatDoorPFnAppendedx13
import Derived.Deep.RegionHeld3
import Derived.Deep.CutRange
/- A drawn engine: the walks of spec.EngineNew and spec.l7Draw. -/
namespace Go.Proofs.YtickiokdcbeefaaGreatDoor
open Go.RowKit
attribute [local go_sem ↓] Go.wp_at_zero Go.wp_at_succ

def newE : EngA := zeroE.withNext 1
set_option maxHeartbeats 1000000 in
set_option maxRecDepth 100000 in
theorem alloc_eng {w : World} {ops : Array Oper} {rest : List Oper} {dst : Option Nat} {ty : TypeId} {pos : String} {aft : Array Edge} {act : Act} {Q : Exit → Act → World → Prop}
    (h : wpList Tryz.prog ops Q rest (act.put dst (.pointer (some ⟨w.heap.size, 0, none⟩))) (w.alloc (.cells zeroE.cells.toArray TE))) :
    wpList Tryz.prog ops Q ({ dst := dst, op := .alloc 105, type := ty, pos := pos, after := aft, guard := none } :: rest) act w := by
  refine wpList_plain rfl fun K hK => ?_
  have hz := Tryz.zeroEng
  cases hi : Tryz.prog.info? 105 with
  | none => rw [hi] at hz; cases hz
  | some inf =>
    rw [hi] at hz
    have hz' : inf.zero = some (.agg zeroE.cells.toArray) := by simpa using hz
    obtain ⟨cs, hcs⟩ : ∃ cs, zeroE.cells = cs := ⟨_, rfl⟩
    rw [hcs] at hz' h
    unfold Oper.wp execOp
    have e1 : (zeroValue 105).run Tryz.prog w = .ok (.agg cs.toArray) w := by simp [zeroValue, typeInfo, hi, hz']
    have e2 : (Instr.alloc 105 true (.tuple #[])).run Tryz.prog w = .ok (.pointer (some ⟨w.heap.size, 0, none⟩)) (w.alloc (.cells cs.toArray TE)) := by
      unfold Instr.alloc
      simp only [Sem.run_bind, e1, Result.andThen_ok]
      simp [newVar, go_sem]
    simp only [Sem.run_bind, e2, Result.andThen_ok, Sem.run_pure]
    exact hK _ _ h
set_option maxHeartbeats 1000000 in
set_option maxRecDepth 100000 in
theorem run_buildE (w : World) : (Instr.build 105 #[(5, Value.int .i64 1)]).run Tryz.prog w = .ok (.agg newE.cells.toArray) w := run_build w _ _ _ (by kernel_rfl)
set_option maxHeartbeats 1000000 in
set_option maxRecDepth 100000 in
theorem build_engine {w : World} {ops : Array Oper} {rest : List Oper} {dst : Option Nat} {ty : TypeId} {pos : String} {aft : Array Edge} {act : Act} {Q : Exit → Act → World → Prop}
    (h : wpList Tryz.prog ops Q rest (act.put dst (.agg newE.cells.toArray)) w) :
    wpList Tryz.prog ops Q ({ dst := dst, op := .build 105 #[(5, .const (.int .i64 1))], type := ty, pos := pos, after := aft, guard := none } :: rest) act w := by
  refine wpList_plain rfl fun K hK => ?_
  unfold Oper.wp execOp
  simp only [List.map_toArray, List.map_cons, List.map_nil]
  have ec : act.eval (.const (.int .i64 1)) = .int .i64 1 := rfl
  rw [ec]
  simp only [Sem.run_bind, run_buildE w, Result.andThen_ok, Sem.run_pure]
  exact hK _ _ h
theorem eng_info {e : EngA} (h : e.shape) : (Tryz.prog.info? 105).map (·.size) = some e.cells.length := by rw [EngA.cells_len h]; exact Tryz.infoEng
theorem oneE (e : EngA) : ∀ v ∈ e.cells, v.oneCell' = true := by
  intro v hv
  simp only [EngA.cells, List.mem_append] at hv
  rcases hv with hv | hv
  · obtain ⟨p, _, hp⟩ := List.mem_flatMap.1 hv
    exact oneP p v hp
  · simp only [EngA.tail, List.mem_cons, List.not_mem_nil, or_false] at hv
    rcases hv with rfl | rfl | rfl | rfl | rfl | rfl | rfl | rfl <;> rfl
theorem zeroE_shape : zeroE.shape := ⟨rfl, fun p hp => by
  simp only [zeroE, List.mem_cons, List.not_mem_nil, or_false] at hp
  have : p = zeroP := by rcases hp with h | h | h | h | h | h | h | h <;> exact h
  rw [this]; rfl⟩
theorem newE_shape : newE.shape := ⟨zeroE_shape.eight, zeroE_shape.four⟩
/-- An engine stored into a box. -/
theorem eng_out {w : World} {C : Nat} {q old : EngA} (hq : q.shape) (ho : old.shape) (bC : Box w C old.cells TE) :
    ∃ WF, Hid (w.setCells C 0 q.cells.toArray.toList = WF) ∧ Within C (C + 1) w WF ∧ WF.heap.size = w.heap.size ∧ Hid (w.there C 0 q.cells.toArray.size) ∧ Box WF C q.cells TE := by
  obtain ⟨WF, hWF, bF, hwF, hsF⟩ := range_fill [] old.cells q.cells [] (by simpa using bC) (by rw [EngA.cells_len hq, EngA.cells_len ho])
  refine ⟨WF, hWF, hwF, hsF, bC.there 0 _ (by rw [List.size_toArray, EngA.cells_len hq, EngA.cells_len ho]; omega), by simpa using bF⟩
theorem eng_load {w : World} {C : Nat} {q : EngA} (hq : q.shape) (b : Box w C q.cells TE) : (loadVar 105 ⟨C, 0, none⟩).run Tryz.prog w = .ok (.agg q.cells.toArray) w :=
  run_loadVar_mid (P := Tryz.prog) w C 0 105 q.cells _ (Box.range [] q.cells [] (by simpa using b)) Tryz.underlying105 rfl (eng_info hq)

set_option maxHeartbeats 4000000 in
set_option maxRecDepth 100000 in
theorem engineNew_any (w : World) : Calls Tryz.prog 98 #[] w fun r w' => r = .returned (.agg newE.cells.toArray) ∧ Below w.heap.size w w' := by
  obtain ⟨W, hW, b0, hbW, hsW⟩ := boxes1 w zeroE.cells TE
  obtain ⟨W1, hW1, hw1, hs1, HT1, b1⟩ := eng_out newE_shape zeroE_shape b0
  have N1 : Below w.heap.size w W1 := hbW.trans (hw1.below (Nat.le_refl _) (by omega))
  have HLD : Hid ((loadVar 105 ⟨w.heap.size, 0, none⟩).run Tryz.prog W1 = .ok (.agg newE.cells.toArray) W1) := eng_load newE_shape b1
  have HI1 : Hid ((Tryz.prog.info? 105).map (·.size) = some newE.cells.toArray.size) := eng_info newE_shape
  have HO := all_oneCell_toArray (oneE newE)
  clear hsW hw1 hs1 b0 b1
  obtain ⟨q, hq⟩ : ∃ q, Hid (newE = q) := ⟨_, rfl⟩
  obtain ⟨z, hz⟩ : ∃ z, Hid (zeroE = z) := ⟨_, rfl⟩
  rw [hq.out] at hW1 HT1 HLD HI1 HO ⊢
  rw [hz.out] at hW
  go_enter Tryz.func98, Tryz.ntmps98
  go_wp2_with (first | (guard_target = wpList _ _ _ (Oper.mk (some 0) _ _ _ _ _ :: _) _ _; refine alloc_eng ?_; rw [hz.out, hW.out]) | (guard_target = wpList _ _ _ (Oper.mk (some 1) _ _ _ _ _ :: _) _ _; refine build_engine ?_; rw [hq.out]) | (guard_target = wpList _ _ _ (Oper.mk none (Op.store _ (Operand.tmp 0) _) _ _ _ _ :: _) _ _; refine wpList_store_mid rfl 105 (.tmp 0) (.tmp 1) rfl w.heap.size 0 q.cells.toArray rfl rfl HT1.out HI1.out HO ?_; rw [hW1.out]) | fail)
  exact bodyPost_ret (v := .agg q.cells.toArray) (results_one Tryz.results98 rfl HLD.out) rfl ⟨rfl, N1⟩
theorem SomeStep.after {B E : Nat} {zs : List Int} {e e' e'' : EngA} {w w' w'' : World} (s : SomeStep B E zs e w e' w') (t : SomeStep B E zs e' w' e'' w'') : SomeStep B E zs e w e'' w'' := by
  refine ⟨t.cur, t.at', t.low, ⟨t.touch.os.trans s.touch.os, t.touch.tape.trans s.touch.tape, t.touch.output.trans s.touch.output, Nat.le_trans s.touch.size t.touch.size, fun k hk hn => ?_⟩, fun k hk => ?_⟩
  · refine (t.touch.block k (Nat.lt_of_lt_of_le hk s.touch.size) (fun h => ?_)).trans (s.touch.block k hk hn)
    rcases List.mem_cons.1 h with h | h
    · exact hn (by simp [h])
    · rcases List.mem_cons.1 h with h | h
      · exact hn (by simp [h])
      · rcases s.fresh k h with h | h
        · exact hn (List.mem_cons_of_mem _ (List.mem_cons_of_mem _ h))
        · omega
  · rcases t.fresh k hk with h | h
    · exact s.fresh k h
    · exact .inr (Nat.le_trans s.touch.size h)
theorem newE_own (w : World) : newE.own w 0 w.heap.size := by
  refine ⟨⟨fun s hs => ?_, List.nodup_nil⟩, ownSts_nil _ _ _ (Nat.le_refl _), ownRs_nil _ _ _ (Nat.le_refl _), ownL_nil _ _ _ (Nat.le_refl _), ownH_nil _ _ _ (Nat.le_refl _), List.nodup_nil⟩
  have h1 : ∀ p ∈ newE.disk, p = zeroP := fun p hp => by
    simp only [newE, EngA.withNext, zeroE, List.mem_cons, List.not_mem_nil, or_false] at hp
    rcases hp with h | h | h | h | h | h | h | h <;> exact h
  obtain ⟨p, hp, hs⟩ := List.mem_flatMap.1 hs
  rw [h1 p hp] at hs
  have h2 : s = zeroS := by simpa [zeroP] using hs
  rw [h2]
  exact zero_own _ _ _ (Nat.le_refl _)
/-- What a draw of an engine answers. -/
def EngAns (B : Nat) (zs : List Int) (w : World) (r : Ending) (w' : World) : Prop := ∃ (e : EngA) (i : Nat), r = .returned (.agg e.cells.toArray) ∧ i ≤ 16 ∧ DrawE i e.v ∧ e.shape ∧ e.own w' 0 w'.heap.size ∧ (∀ k ∈ e.blocks, w.heap.size ≤ k) ∧ CurAt w' B zs ∧ Within B (B + 1) w w'

set_option maxHeartbeats 4000000 in
set_option maxRecDepth 100000 in
theorem l7Draw_any (B : Nat) (zs : List Int) (n : Int) (w : World) (hc : CurAt w B zs) (hl : zs.length ≤ 70368744177664) (hn0 : 0 < n) (hn : n ≤ 17) :
    Calls Tryz.prog 71 #[.pointer (some ⟨B, 0, none⟩), .int .i64 n] w fun r w' => EngAns B zs w r w' := by
  obtain ⟨W, hW, b0, hbW, hsW⟩ := boxes1 w zeroE.cells TE
  obtain ⟨z, hz⟩ : ∃ z, Hid (zeroE = z) := ⟨_, rfl⟩
  obtain ⟨q, hq⟩ : ∃ q, Hid (newE = q) := ⟨_, rfl⟩
  have hzs : z.shape := by rw [← hz.out]; exact zeroE_shape
  have hqs : q.shape := by rw [← hq.out]; exact newE_shape
  have hqv : Hid (q.v = newV) := by rw [Hid, ← hq.out]; rfl
  have hqb : Hid (q.blocks = []) := by rw [Hid, ← hq.out]; rfl
  have hqo : ∀ u, q.own u 0 u.heap.size := fun u => by rw [← hq.out]; exact newE_own u
  have CN := engineNew_any W
  rw [hq.out] at CN
  rw [hz.out] at hW b0
  have hBw := hc.lt
  clear hsW
  go_enter Tryz.func71, Tryz.ntmps71
  go_wp2_with (first | (guard_target = wpList _ _ _ (Oper.mk (some 4) _ _ _ _ _ :: _) _ _; refine alloc_eng ?_; rw [hz.out, hW.out]) | fail)
  refine CN.mono ?_
  clear CN
  rintro r w1 ⟨rfl, hb1⟩
  have hs1 := hb1.size
  have bR1 := b0.below hb1 b0.lt
  obtain ⟨W2, hW2, b2, hb2, hs2⟩ := boxes1 w1 z.cells TE
  obtain ⟨W3, hW3, hw3, hs3, HT3, b3⟩ := eng_out hqs hzs b2
  have N13 : Below w1.heap.size w1 W3 := hb2.trans (hw3.below (Nat.le_refl _) (by omega))
  have bR3 := bR1.below N13 bR1.lt
  have N1 : Below w.heap.size w w1 := hbW.trans (hb1.mono hbW.size)
  have N3 : Below w.heap.size w W3 := N1.trans (N13.mono N1.size)
  have hc3 := hc.below N3
  have hR1 := bR1.lt
  have aE : EngAt W3 w1.heap.size q := ⟨b3, hqs, hqo W3, by rw [hqb.out]; simp⟩
  have T3 : SomeStep B w1.heap.size zs q W3 q W3 := SomeStep.refl hc3 aE ⟨by omega, by rw [hqb.out]; simp⟩
  have HI3 : Hid ((Tryz.prog.info? 105).map (·.size) = some q.cells.toArray.size) := eng_info hqs
  have HO := all_oneCell_toArray (oneE q)
  have C3 := l1Below_any B zs n W3 hc3 hl (by omega)
  have hW2' : Hid (w1.alloc (.cells z.cells.toArray TE) = W2) := hW2.out
  clear hs2 hs3 hw3 b2 hb2 hW2
  go_upto_region 2 with (first | (guard_target = wpList _ _ _ (Oper.mk (some 5) _ _ _ _ _ :: _) _ _; refine alloc_eng ?_; rw [hz.out, hW2'.out]) | (guard_target = wpList _ _ _ (Oper.mk none (Op.store _ (Operand.tmp 5) _) _ _ _ _ :: _) _ _; refine wpList_store_mid rfl 105 (.tmp 5) (.tmp 7) rfl w1.heap.size 0 q.cells.toArray rfl rfl HT3.out HI3.out HO ?_; rw [hW3.out]) | fail)
  clear hW2' hW3 HT3 HI3 HO
  go_wp2_with fail
  refine C3.mono ?_
  clear C3
  rintro r w4 ⟨x, rfl, hx, hc4, hg4⟩
  have hx16 : x ≤ 16 := by have := hx hn0; omega
  have T4 := T3.drew hc4 (touch_cur hg4)
  clear hx hc4 hg4 T3 hc3
  go_wp2_with fail
  go_loopw [6] (fun v wr => ∃ (k : Nat) (e : EngA), v = .int .i64 k ∧ k ≤ x ∧ DrawE (x - k) e.v ∧ SomeStep B w1.heap.size zs q W3 e wr) (fun v _ => (intOf v).toNat)
  case atStart => exact ⟨x, q, rfl, Nat.le_refl _, by rw [Nat.sub_self, hqv.out]; exact drawE_new, T4⟩
  case round =>
    obtain ⟨k, e, rfl, hk, hd, T⟩ := hrel
    clear T4
    cases k with
    | zero =>
      have hRoff : ∀ j ∈ w.heap.size :: [], j ∉ B :: w1.heap.size :: q.blocks := fun j hj => by
        rw [List.mem_singleton.1 hj, hqb.out]
        simp only [List.mem_cons, List.not_mem_nil, or_false, not_or]
        exact ⟨by omega, by omega⟩
      have bRr := bR3.touch T.touch (hRoff _ (by simp))
      obtain ⟨WF, hWF, hwF, hsF, HTF, bF⟩ := eng_out T.at'.shape hzs bRr
      have rE : wr.rangeAt w1.heap.size 0 e.cells := Box.range [] e.cells [] (by simpa using T.at'.box)
      have HIe : Hid ((Tryz.prog.info? 105).map (·.size) = some e.cells.length) := eng_info T.at'.shape
      have HIe' : Hid ((Tryz.prog.info? 105).map (·.size) = some e.cells.toArray.size) := eng_info T.at'.shape
      have HO := all_oneCell_toArray (oneE e)
      have HLD : Hid ((loadVar 105 ⟨w.heap.size, 0, none⟩).run Tryz.prog WF = .ok (.agg e.cells.toArray) WF) := eng_load T.at'.shape bF
      have hs3 := N3.size
      have hRb : ∀ j ∈ e.blocks, W3.heap.size ≤ j := fun j hj => (T.fresh j hj).elim (fun h1 => by rw [hqb.out] at h1; cases h1) id
      have hR3 := bR3.lt
      have hoF := (T.at'.within hwF (by omega) (fun j hj => by have := hRb j hj; omega)).own
      have hcF := T.cur.within hwF (by omega)
      have hWin : Within B (B + 1) w WF := ⟨hwF.os.trans (T.touch.os.trans N3.os), hwF.tape.trans (T.touch.tape.trans N3.tape), hwF.output.trans (T.touch.output.trans N3.output), Nat.le_trans hs3 (Nat.le_trans T.touch.size hwF.size), fun j hj hn1 => (hwF.block j (by have := T.touch.size; omega) (by omega)).trans ((T.touch.block j (by omega) (by
        rw [hqb.out]
        simp only [List.mem_cons, List.not_mem_nil, or_false, not_or]
        exact ⟨by omega, by omega⟩)).trans (N3.block j hj))⟩
      have HEND : Hid (EngAns B zs w (.returned (.agg e.cells.toArray)) WF) := ⟨e, x, rfl, hx16, hd, T.at'.shape, hoF, fun j hj => by have := hRb j hj; omega, hcF, hWin⟩
      clear hRoff hRb hoF hcF hWin bF bRr hwF hsF hd
      go_wp2_with (first | (guard_target = wpList _ _ _ (Oper.mk (some 17) _ _ _ _ _ :: _) _ _; refine wpList_load_mid rfl 105 (.tmp 5) rfl w1.heap.size 0 rfl e.cells _ rE Tryz.underlying105 rfl HIe.out ?_) | (guard_target = wpList _ _ _ (Oper.mk none (Op.store _ (Operand.tmp 4) _) _ _ _ _ :: _) _ _; refine wpList_store_mid rfl 105 (.tmp 4) (.tmp 17) rfl w.heap.size 0 e.cells.toArray rfl rfl HTF.out HIe'.out HO ?_; rw [hWF.out]) | fail)
      exact bodyPost_ret (v := .agg e.cells.toArray) (results_one Tryz.results71 rfl HLD.out) rfl HEND.out
    | succ k =>
      have C5 := l7Some_any (x - (k + 1)) B w1.heap.size zs e wr T.cur hl T.at' T.low hd (by omega)
      go_wp2_with fail
      refine C5.mono ?_
      clear C5
      rintro r w5 ⟨⟨v5, rfl⟩, e5, hd5, t5⟩
      have T5 := T.after t5
      have hd5' : DrawE (x - k) e5.v := by rw [show x - k = x - (k + 1) + 1 by omega]; exact hd5
      clear hd5 t5 T
      go_wp2_with fail
      go_roundw
      case rel => exact ⟨k, e5, by go_num, by omega, hd5', T5⟩
      case measure => simp [intOf]
end Go.Proofs.YtickiokdcbeefaaGreatDoor

/- Drawn records: the walks of spec.l4Draw. -/
namespace Go.Proofs.YtickiokdcbeefaaGreatDoor
open Go.RowKit

theorem readsI_box {w : World} {g : Nat} {t : TypeId} (ns : List Int) (b : Box w g (ns.map (Value.int .i64)) t) : ReadsI w (some ⟨g, 0, none⟩) ns := fun _ => ⟨g, 0, rfl, fun i hi => by
  rw [Nat.zero_add]
  exact b.cell i _ (by simp [List.getD, hi])⟩
/-- A record that was drawn: its lists are short, and the call owns them. -/
def Drawn (w w' : World) (B : Nat) (zs : List Int) (e : Ending) : Prop := ∃ t : RecA, e = .returned (.agg t.cells.toArray) ∧ t.short 10 ∧ t.own w' w.heap.size w'.heap.size ∧ CurAt w' B zs ∧ Within B (B + 1) w w'
theorem own_two {w : World} {lo mid mid' hi : Nat} {s t : SlotA} (n tx p k o x : Int) (hs : s.own w lo mid) (ht : t.own w mid' hi) (h1 : mid ≤ mid') (h2 : lo ≤ mid') (h3 : mid' ≤ hi) : (⟨n, tx, p, k, o, s, t, x, [], none, 0⟩ : RecA).own w lo hi := by
  have hh : hi ≤ w.heap.size := ht.ints.2.1
  refine ⟨OwnO.widen hs (Nat.le_refl _) (by omega) hh, OwnO.widen ht h2 (Nat.le_refl _) hh, ownL_nil _ _ _ hh, ?_⟩
  exact rec_apart (b := mid') (c := hi) (d := hi) (OwnO.widen hs (Nat.le_refl _) h1 (by omega)) ht (ownL_nil _ _ _ hh) h3
theorem own_lives {w : World} {lo hi : Nat} {aL : Option Addr} {cL : Nat} {ls : List LiveV} (n tx p k o x : Int) (hL : OwnL w lo hi aL cL ls) : (⟨n, tx, p, k, o, zeroS, zeroS, x, ls, aL, cL⟩ : RecA).own w lo hi := by
  have hh : hi ≤ w.heap.size := hL.2.1
  refine ⟨zero_own _ _ _ hh, zero_own _ _ _ hh, hL, ?_⟩
  show ([] ++ ([] ++ (Value.slice aL ls.length cL).ownBlock.toList)).Nodup
  cases (Value.slice aL ls.length cL).ownBlock <;> simp

set_option maxHeartbeats 8000000 in
set_option maxRecDepth 100000 in
theorem l4Draw_any (B : Nat) (zs : List Int) (w : World) (hc : CurAt w B zs) (hl : zs.length ≤ 70368744177664) :
    Calls Tryz.prog 65 #[.pointer (some ⟨B, 0, none⟩)] w fun e w' => Drawn w w' B zs e := by
  have hB := hc.lt
  obtain ⟨W, hW, bR, hbW, hsW⟩ := boxes1 w [.int .i64 0, .int .i64 0, .int .i64 0, .int .i64 0, .int .i64 0, .bool false, .int .i64 0, .slice none 0 0, .slice none 0 0, .bool false, .int .i64 0, .slice none 0 0, .slice none 0 0, .int .i64 0, .slice none 0 0] 42
  have HW : Within B (B + 1) w W := Within.of_below hbW
  replace hc : CurAt W B zs := hc.below hbW
  have hsW' : w.heap.size < W.heap.size := bR.lt
  clear hsW hbW
  go_enter Tryz.func65, Tryz.ntmps65
  go_wp2_with fail
  rw [hW.out]
  clear hW
  refine (l1Below_any B zs 40 W hc hl (by omega)).mono ?_
  clear hc
  rintro e v1 ⟨x1, rfl, hx1, hc, hgv1⟩
  replace hx1 : (x1 : Int) < 40 := hx1 (by decide)
  have hwv1 := within_cur hgv1
  clear hgv1
  have sv1 := hwv1.size
  replace bR := bR.within hwv1 (by omega)
  replace HW := HW.trans hwv1
  clear hwv1
  go_wp2_with fail
  refine (l1Below_any B zs 4 v1 hc hl (by omega)).mono ?_
  clear hc
  rintro e v2 ⟨x2, rfl, hx2, hc, hgv2⟩
  replace hx2 : (x2 : Int) < 4 := hx2 (by decide)
  have hwv2 := within_cur hgv2
  clear hgv2
  have sv2 := hwv2.size
  replace bR := bR.within hwv2 (by omega)
  replace HW := HW.trans hwv2
  clear hwv2
  go_wp2_with fail
  refine (l1Below_any B zs 6 v2 hc hl (by omega)).mono ?_
  clear hc
  rintro e v3 ⟨x3, rfl, hx3, hc, hgv3⟩
  replace hx3 : (x3 : Int) < 6 := hx3 (by decide)
  have hwv3 := within_cur hgv3
  clear hgv3
  have sv3 := hwv3.size
  replace bR := bR.within hwv3 (by omega)
  replace HW := HW.trans hwv3
  clear hwv3
  obtain ⟨v4, hv4, bX, bI, hbv4, ev4⟩ := boxes2 v3 [.int .i64 (5 + (x1 : Int)), .int .i64 (1 + (x2 : Int)), .int .i64 0, .int .i64 (1 + (x3 : Int)), .int .i64 0, .bool false, .int .i64 0, .slice none 0 0, .slice none 0 0, .bool false, .int .i64 0, .slice none 0 0, .slice none 0 0, .int .i64 0, .slice none 0 0] [.int .i64 0, .int .i64 1, .int .i64 4, .int .i64 (5 + (x1 : Int) - 1)] 42 3
  have lX := bX.lt
  have lI := bI.lt
  clear ev4
  have sv4 := hbv4.size
  replace hc := hc.below hbv4
  replace bR := bR.below hbv4 bR.lt
  replace HW := HW.trans (Within.of_below hbv4)
  clear hbv4
  go_wp2_with fail
  rw [hv4.out]
  clear hv4
  refine (l1Int_any B zs (some ⟨v3.heap.size + 1, 0, none⟩) 4 [0, 1, 4, 5 + (x1 : Int) - 1] v4 hc hl (readsI_box [0, 1, 4, 5 + (x1 : Int) - 1] bI) (fun b off h => by cases h; omega) (by simp) (by simp)).mono ?_
  clear hc bI
  rintro e v5 ⟨j, hj, rfl, hc, hgv5⟩
  generalize [0, 1, 4, 5 + (x1 : Int) - 1].getD j 0 = pv at *
  clear hj
  have hwv5 := within_cur hgv5
  clear hgv5
  have sv5 := hwv5.size
  replace bR := bR.within hwv5 (by omega)
  replace bX := bX.within hwv5 (by omega)
  replace HW := HW.trans hwv5
  clear hwv5
  have cx2 := bX.cell 2 _ rfl
  have cf2 := bX.frozen 2
  obtain ⟨v6, hv6, bX2, hwv6, ev6⟩ := box_set bX 2 (.int .i64 pv)
  have e1v6 := Nat.le_of_eq ev6
  have e2v6 := Nat.le_of_eq ev6.symm
  clear ev6
  simp only [List.set] at bX2
  replace hc := hc.within hwv6 (by omega)
  replace bR := bR.within hwv6 (by omega)
  replace HW := HW.new hwv6 (by omega)
  clear bX hwv6
  have bX := bX2
  clear bX2
  go_upto_region 3 with fail
  rw [hv6.out]
  clear hv6 cx2 cf2
  have k3 := bX.cell 3 _ rfl
  go_upto_region 4 with fail
  clear k3
  by_cases q0 : x3 = 0
  case pos =>
    have t1_ : ((1 + (x3 : Int)) == 1) = true := by simp; omega
    go_wp2_with fail
    refine (l1Below_any B zs 31 v6 hc hl (by omega)).mono ?_
    clear hc
    rintro e v7 ⟨y, rfl, hy, hc, hgv7⟩
    replace hy : (y : Int) < 31 := hy (by decide)
    have hwv7 := within_cur hgv7
    clear hgv7
    have sv7 := hwv7.size
    replace bR := bR.within hwv7 (by omega)
    replace bX := bX.within hwv7 (by omega)
    replace HW := HW.trans hwv7
    clear hwv7
    have cx4 := bX.cell 4 _ rfl
    have cf4 := bX.frozen 4
    obtain ⟨v8, hv8, bX2, hwv8, ev8⟩ := box_set bX 4 (.int .i64 (1 + (y : Int)))
    have e1v8 := Nat.le_of_eq ev8
    have e2v8 := Nat.le_of_eq ev8.symm
    clear ev8
    simp only [List.set] at bX2
    replace hc := hc.within hwv8 (by omega)
    replace bR := bR.within hwv8 (by omega)
    replace HW := HW.new hwv8 (by omega)
    clear bX hwv8
    have bX := bX2
    clear bX2
    go_wp2_with fail
    rw [hv8.out]
    clear hv8 cx4 cf4
    refine (l3DrawSlot_any B zs v8 hc hl).mono ?_
    clear hc
    rintro e v9 ⟨t1, rfl, hst1, ot1, hc, hwv9⟩
    simp only [SlotA.cells]
    have sv9 := hwv9.size
    replace bR := bR.within hwv9 (by omega)
    replace bX := bX.within hwv9 (by omega)
    replace HW := HW.trans hwv9
    clear hwv9
    have cx5 := bX.cell 5 _ rfl
    have cf5 := bX.frozen 5
    have cx6 := bX.cell 6 _ rfl
    have cf6 := bX.frozen 6
    have cx7 := bX.cell 7 _ rfl
    have cf7 := bX.frozen 7
    have cx8 := bX.cell 8 _ rfl
    have cf8 := bX.frozen 8
    obtain ⟨v10, hv10, bX2, hwv10, ev10⟩ := box_quad bX 5 6 7 8 (.bool t1.v.has) (.int .i64 t1.v.o.kind) (.slice t1.aI t1.v.o.ints.length t1.cI) (.slice t1.aR t1.v.o.refs.length t1.cR)
    have e1v10 := Nat.le_of_eq ev10
    have e2v10 := Nat.le_of_eq ev10.symm
    clear ev10
    simp only [List.set] at bX2
    replace hc := hc.within hwv10 (by omega)
    replace bR := bR.within hwv10 (by omega)
    replace ot1 := OwnO.within ot1 hwv10 (by omega)
    replace HW := HW.new hwv10 (by omega)
    clear bX hwv10
    have bX := bX2
    clear bX2
    go_wp2_with fail
    rw [hv10.out]
    clear hv10 cx5 cf5 cx6 cf6 cx7 cf7 cx8 cf8
    refine (l3DrawSlot_any B zs v10 hc hl).mono ?_
    clear hc
    rintro e v11 ⟨t2, rfl, hst2, ot2, hc, hwv11⟩
    simp only [SlotA.cells]
    have sv11 := hwv11.size
    replace bR := bR.within hwv11 (by omega)
    replace bX := bX.within hwv11 (by omega)
    replace ot1 := OwnO.within ot1 hwv11 (by omega)
    replace HW := HW.trans hwv11
    clear hwv11
    have cx9 := bX.cell 9 _ rfl
    have cf9 := bX.frozen 9
    have cx10 := bX.cell 10 _ rfl
    have cf10 := bX.frozen 10
    have cx11 := bX.cell 11 _ rfl
    have cf11 := bX.frozen 11
    have cx12 := bX.cell 12 _ rfl
    have cf12 := bX.frozen 12
    obtain ⟨v12, hv12, bX2, hwv12, ev12⟩ := box_quad bX 9 10 11 12 (.bool t2.v.has) (.int .i64 t2.v.o.kind) (.slice t2.aI t2.v.o.ints.length t2.cI) (.slice t2.aR t2.v.o.refs.length t2.cR)
    have e1v12 := Nat.le_of_eq ev12
    have e2v12 := Nat.le_of_eq ev12.symm
    clear ev12
    simp only [List.set] at bX2
    replace hc := hc.within hwv12 (by omega)
    replace bR := bR.within hwv12 (by omega)
    replace ot1 := OwnO.within ot1 hwv12 (by omega)
    replace ot2 := OwnO.within ot2 hwv12 (by omega)
    replace HW := HW.new hwv12 (by omega)
    clear bX hwv12
    have bX := bX2
    clear bX2
    go_upto_region 20 with fail
    rw [hv12.out]
    clear hv12 cx9 cf9 cx10 cf10 cx11 cf11 cx12 cf12
    have bT : Box v12 v3.heap.size (RecA.cells ⟨5 + (x1 : Int), 1 + (x2 : Int), pv, 1 + (x3 : Int), 1 + (y : Int), t1, t2, 0, [], none, 0⟩) 42 := bX
    have oT : RecA.own v12 v8.heap.size v12.heap.size ⟨5 + (x1 : Int), 1 + (x2 : Int), pv, 1 + (x3 : Int), 1 + (y : Int), t1, t2, 0, [], none, 0⟩ := (own_two _ _ _ _ _ _ ot1 ot2 (by omega) (by omega) (by omega)).widen (Nat.le_refl _) (by omega) (Nat.le_refl _)
    have HSH : Hid (RecA.short ⟨5 + (x1 : Int), 1 + (x2 : Int), pv, 1 + (x3 : Int), 1 + (y : Int), t1, t2, 0, [], none, 0⟩ 10) := ⟨⟨by show t1.v.o.ints.length ≤ 10; omega, by show t1.v.o.refs.length ≤ 10; omega⟩, ⟨by show t2.v.o.ints.length ≤ 10; omega, by show t2.v.o.refs.length ≤ 10; omega⟩, Nat.zero_le _⟩
    generalize hT : ((⟨5 + (x1 : Int), 1 + (x2 : Int), pv, 1 + (x3 : Int), 1 + (y : Int), t1, t2, 0, [], none, 0⟩) : RecA) = TT at *
    clear hT
    obtain ⟨WF, hWF, hwF, hsF, HTF, HLF, _⟩ := rec_out TT _ rfl bR
    have HF : Hid (Drawn w WF B zs (.returned (.agg TT.cells.toArray))) := ⟨TT, rfl, HSH.out, (oT.within hwF (by omega)).widen (by omega) (by omega) (Nat.le_refl _), hc.within hwF (by omega), HW.new hwF (Nat.le_refl _)⟩
    have rT := Box.range [] TT.cells [] (by simpa using bT : Box v12 v3.heap.size ([] ++ (TT.cells ++ [])) 42)
    clear hwF hsF bX
    go_wp2_with (first | (guard_target = wpList _ _ _ (Oper.mk (some 74) _ _ _ _ _ :: _) _ _; refine wpList_load_mid rfl 42 (.tmp 3) rfl v3.heap.size 0 rfl TT.cells _ (rT) Tryz.underlying42 rfl (rec_info _) ?_) | (guard_target = wpList _ _ _ (Oper.mk none (Op.store _ (Operand.tmp 2) _) _ _ _ _ :: _) _ _; refine wpList_store_mid rfl 42 (.tmp 2) (.tmp 74) rfl w.heap.size 0 TT.cells.toArray rfl rfl (HTF.out) (by rw [List.size_toArray]; exact rec_info _) (rec_one _) ?_) | fail)
    rw [hWF.out]
    exact bodyPost_ret (v := .agg TT.cells.toArray) (results_one Tryz.results65 rfl HLF.out) rfl HF.out
  case neg =>
  have f1_ : ((1 + (x3 : Int)) == 1) = false := by simp; omega
  by_cases q3 : x3 = 3
  case pos =>
    have t4_ : ((1 + (x3 : Int)) == 4) = true := by simp; omega
    go_wp2_with fail
    refine (l1Below_any B zs 31 v6 hc hl (by omega)).mono ?_
    clear hc
    rintro e v7 ⟨y, rfl, hy, hc, hgv7⟩
    replace hy : (y : Int) < 31 := hy (by decide)
    have hwv7 := within_cur hgv7
    clear hgv7
    have sv7 := hwv7.size
    replace bR := bR.within hwv7 (by omega)
    replace bX := bX.within hwv7 (by omega)
    replace HW := HW.trans hwv7
    clear hwv7
    have cx4 := bX.cell 4 _ rfl
    have cf4 := bX.frozen 4
    obtain ⟨v8, hv8, bX2, hwv8, ev8⟩ := box_set bX 4 (.int .i64 (1 + (y : Int)))
    have e1v8 := Nat.le_of_eq ev8
    have e2v8 := Nat.le_of_eq ev8.symm
    clear ev8
    simp only [List.set] at bX2
    replace hc := hc.within hwv8 (by omega)
    replace bR := bR.within hwv8 (by omega)
    replace HW := HW.new hwv8 (by omega)
    clear bX hwv8
    have bX := bX2
    clear bX2
    go_wp2_with fail
    rw [hv8.out]
    clear hv8 cx4 cf4
    refine (l3DrawSlot_any B zs v8 hc hl).mono ?_
    clear hc
    rintro e v9 ⟨t2, rfl, hst2, ot2, hc, hwv9⟩
    simp only [SlotA.cells]
    have sv9 := hwv9.size
    replace bR := bR.within hwv9 (by omega)
    replace bX := bX.within hwv9 (by omega)
    replace HW := HW.trans hwv9
    clear hwv9
    have cx9 := bX.cell 9 _ rfl
    have cf9 := bX.frozen 9
    have cx10 := bX.cell 10 _ rfl
    have cf10 := bX.frozen 10
    have cx11 := bX.cell 11 _ rfl
    have cf11 := bX.frozen 11
    have cx12 := bX.cell 12 _ rfl
    have cf12 := bX.frozen 12
    obtain ⟨v10, hv10, bX2, hwv10, ev10⟩ := box_quad bX 9 10 11 12 (.bool t2.v.has) (.int .i64 t2.v.o.kind) (.slice t2.aI t2.v.o.ints.length t2.cI) (.slice t2.aR t2.v.o.refs.length t2.cR)
    have e1v10 := Nat.le_of_eq ev10
    have e2v10 := Nat.le_of_eq ev10.symm
    clear ev10
    simp only [List.set] at bX2
    replace hc := hc.within hwv10 (by omega)
    replace bR := bR.within hwv10 (by omega)
    replace ot2 := OwnO.within ot2 hwv10 (by omega)
    replace HW := HW.new hwv10 (by omega)
    clear bX hwv10
    have bX := bX2
    clear bX2
    go_upto_region 11 with fail
    rw [hv10.out]
    clear hv10 cx9 cf9 cx10 cf10 cx11 cf11 cx12 cf12
    have k0 := bX.cell 0 _ rfl
    obtain ⟨v11, hv11, bI, hbv11, ev11⟩ := boxes1 v10 [.int .i64 0, .int .i64 1, .int .i64 (5 + (x1 : Int) - 1)] 3
    have lI := bI.lt
    clear ev11
    go_wp2_with fail
    rw [hv11.out]
    clear hv11 k0
    have sv11 := hbv11.size
    replace hc := hc.below hbv11
    replace bR := bR.below hbv11 bR.lt
    replace bX := bX.below hbv11 bX.lt
    replace ot2 := OwnO.below ot2 hbv11
    replace HW := HW.trans (Within.of_below hbv11)
    clear hbv11
    refine (l1Int_any B zs (some ⟨v10.heap.size, 0, none⟩) 3 [0, 1, 5 + (x1 : Int) - 1] v11 hc hl (readsI_box [0, 1, 5 + (x1 : Int) - 1] bI) (fun b off h => by cases h; omega) (by simp) (by simp)).mono ?_
    clear hc bI
    rintro e v12 ⟨j, hj, rfl, hc, hgv12⟩
    generalize [0, 1, 5 + (x1 : Int) - 1].getD j 0 = nv at *
    clear hj
    have hwv12 := within_cur hgv12
    clear hgv12
    have sv12 := hwv12.size
    replace bR := bR.within hwv12 (by omega)
    replace bX := bX.within hwv12 (by omega)
    replace ot2 := OwnO.within ot2 hwv12 (by omega)
    replace HW := HW.trans hwv12
    clear hwv12
    have cx13 := bX.cell 13 _ rfl
    have cf13 := bX.frozen 13
    obtain ⟨v13, hv13, bX2, hwv13, ev13⟩ := box_set bX 13 (.int .i64 nv)
    have e1v13 := Nat.le_of_eq ev13
    have e2v13 := Nat.le_of_eq ev13.symm
    clear ev13
    simp only [List.set] at bX2
    replace hc := hc.within hwv13 (by omega)
    replace bR := bR.within hwv13 (by omega)
    replace ot2 := OwnO.within ot2 hwv13 (by omega)
    replace HW := HW.new hwv13 (by omega)
    clear bX hwv13
    have bX := bX2
    clear bX2
    go_upto_region 20 with fail
    rw [hv13.out]
    clear hv13 cx13 cf13
    have bT : Box v13 v3.heap.size (RecA.cells ⟨5 + (x1 : Int), 1 + (x2 : Int), pv, 1 + (x3 : Int), 1 + (y : Int), zeroS, t2, nv, [], none, 0⟩) 42 := bX
    have oT : RecA.own v13 v8.heap.size v13.heap.size ⟨5 + (x1 : Int), 1 + (x2 : Int), pv, 1 + (x3 : Int), 1 + (y : Int), zeroS, t2, nv, [], none, 0⟩ := (own_two _ _ _ _ _ _ (zero_own _ v8.heap.size v8.heap.size (by omega)) ot2 (by omega) (by omega) (by omega)).widen (Nat.le_refl _) (by omega) (Nat.le_refl _)
    have HSH : Hid (RecA.short ⟨5 + (x1 : Int), 1 + (x2 : Int), pv, 1 + (x3 : Int), 1 + (y : Int), zeroS, t2, nv, [], none, 0⟩ 10) := ⟨⟨Nat.zero_le _, Nat.zero_le _⟩, ⟨by show t2.v.o.ints.length ≤ 10; omega, by show t2.v.o.refs.length ≤ 10; omega⟩, Nat.zero_le _⟩
    generalize hT : ((⟨5 + (x1 : Int), 1 + (x2 : Int), pv, 1 + (x3 : Int), 1 + (y : Int), zeroS, t2, nv, [], none, 0⟩) : RecA) = TT at *
    clear hT
    obtain ⟨WF, hWF, hwF, hsF, HTF, HLF, _⟩ := rec_out TT _ rfl bR
    have HF : Hid (Drawn w WF B zs (.returned (.agg TT.cells.toArray))) := ⟨TT, rfl, HSH.out, (oT.within hwF (by omega)).widen (by omega) (by omega) (Nat.le_refl _), hc.within hwF (by omega), HW.new hwF (Nat.le_refl _)⟩
    have rT := Box.range [] TT.cells [] (by simpa using bT : Box v13 v3.heap.size ([] ++ (TT.cells ++ [])) 42)
    clear hwF hsF bX
    go_wp2_with (first | (guard_target = wpList _ _ _ (Oper.mk (some 74) _ _ _ _ _ :: _) _ _; refine wpList_load_mid rfl 42 (.tmp 3) rfl v3.heap.size 0 rfl TT.cells _ (rT) Tryz.underlying42 rfl (rec_info _) ?_) | (guard_target = wpList _ _ _ (Oper.mk none (Op.store _ (Operand.tmp 2) _) _ _ _ _ :: _) _ _; refine wpList_store_mid rfl 42 (.tmp 2) (.tmp 74) rfl w.heap.size 0 TT.cells.toArray rfl rfl (HTF.out) (by rw [List.size_toArray]; exact rec_info _) (rec_one _) ?_) | fail)
    rw [hWF.out]
    exact bodyPost_ret (v := .agg TT.cells.toArray) (results_one Tryz.results65 rfl HLF.out) rfl HF.out
  case neg =>
  have f4_ : ((1 + (x3 : Int)) == 4) = false := by simp; omega
  by_cases q5 : x3 = 5
  case neg =>
    have f6_ : ((1 + (x3 : Int)) == 6) = false := by simp; omega
    go_upto_region 20 with fail
    have bT : Box v6 v3.heap.size (RecA.cells ⟨5 + (x1 : Int), 1 + (x2 : Int), pv, 1 + (x3 : Int), 0, zeroS, zeroS, 0, [], none, 0⟩) 42 := bX
    have oT : RecA.own v6 W.heap.size v6.heap.size ⟨5 + (x1 : Int), 1 + (x2 : Int), pv, 1 + (x3 : Int), 0, zeroS, zeroS, 0, [], none, 0⟩ := own_lives _ _ _ _ _ _ (ownL_nil _ _ _ (Nat.le_refl _))
    have HSH : Hid (RecA.short ⟨5 + (x1 : Int), 1 + (x2 : Int), pv, 1 + (x3 : Int), 0, zeroS, zeroS, 0, [], none, 0⟩ 10) := ⟨⟨Nat.zero_le _, Nat.zero_le _⟩, ⟨Nat.zero_le _, Nat.zero_le _⟩, Nat.zero_le _⟩
    generalize hT : ((⟨5 + (x1 : Int), 1 + (x2 : Int), pv, 1 + (x3 : Int), 0, zeroS, zeroS, 0, [], none, 0⟩) : RecA) = TT at *
    clear hT
    obtain ⟨WF, hWF, hwF, hsF, HTF, HLF, _⟩ := rec_out TT _ rfl bR
    have HF : Hid (Drawn w WF B zs (.returned (.agg TT.cells.toArray))) := ⟨TT, rfl, HSH.out, (oT.within hwF (by omega)).widen (by omega) (by omega) (Nat.le_refl _), hc.within hwF (by omega), HW.new hwF (Nat.le_refl _)⟩
    have rT := Box.range [] TT.cells [] (by simpa using bT : Box v6 v3.heap.size ([] ++ (TT.cells ++ [])) 42)
    clear hwF hsF bX
    go_wp2_with (first | (guard_target = wpList _ _ _ (Oper.mk (some 74) _ _ _ _ _ :: _) _ _; refine wpList_load_mid rfl 42 (.tmp 3) rfl v3.heap.size 0 rfl TT.cells _ (rT) Tryz.underlying42 rfl (rec_info _) ?_) | (guard_target = wpList _ _ _ (Oper.mk none (Op.store _ (Operand.tmp 2) _) _ _ _ _ :: _) _ _; refine wpList_store_mid rfl 42 (.tmp 2) (.tmp 74) rfl w.heap.size 0 TT.cells.toArray rfl rfl (HTF.out) (by rw [List.size_toArray]; exact rec_info _) (rec_one _) ?_) | fail)
    rw [hWF.out]
    exact bodyPost_ret (v := .agg TT.cells.toArray) (results_one Tryz.results65 rfl HLF.out) rfl HF.out
  case pos =>
    have t6_ : ((1 + (x3 : Int)) == 6) = true := by simp; omega
    clear q0 q3 q5
    go_upto_region 13 with fail
    have cx1 := bX.cell 1 _ rfl
    have cf1 := bX.frozen 1
    obtain ⟨v7, hv7, bX2, hwv7, ev7⟩ := box_set bX 1 (.int .i64 0)
    have e1v7 := Nat.le_of_eq ev7
    have e2v7 := Nat.le_of_eq ev7.symm
    clear ev7
    simp only [List.set] at bX2
    replace hc := hc.within hwv7 (by omega)
    replace bR := bR.within hwv7 (by omega)
    replace HW := HW.new hwv7 (by omega)
    clear bX hwv7
    have bX := bX2
    clear bX2
    go_upto_region 14 with fail
    rw [hv7.out]
    clear hv7 cx1 cf1
    have cx2 := bX.cell 2 _ rfl
    have cf2 := bX.frozen 2
    obtain ⟨v8, hv8, bX2, hwv8, ev8⟩ := box_set bX 2 (.int .i64 0)
    have e1v8 := Nat.le_of_eq ev8
    have e2v8 := Nat.le_of_eq ev8.symm
    clear ev8
    simp only [List.set] at bX2
    replace hc := hc.within hwv8 (by omega)
    replace bR := bR.within hwv8 (by omega)
    replace HW := HW.new hwv8 (by omega)
    clear bX hwv8
    have bX := bX2
    clear bX2
    go_upto_region 15 with fail
    rw [hv8.out]
    clear hv8 cx2 cf2
    go_wp2_with fail
    go_loopw [4] (fun i wr => ∃ (k : Nat) (ls : List LiveV) (aL : Option Addr) (cL : Nat), i = .int .i64 k ∧ k ≤ 5 ∧ Hid (ls.length ≤ k) ∧ OwnL wr v8.heap.size wr.heap.size aL cL ls ∧ Box wr v3.heap.size [.int .i64 (5 + (x1 : Int)), .int .i64 0, .int .i64 0, .int .i64 (1 + (x3 : Int)), .int .i64 0, .bool false, .int .i64 0, .slice none 0 0, .slice none 0 0, .bool false, .int .i64 0, .slice none 0 0, .slice none 0 0, .int .i64 0, .slice aL ls.length cL] 42 ∧ Box wr w.heap.size [.int .i64 0, .int .i64 0, .int .i64 0, .int .i64 0, .int .i64 0, .bool false, .int .i64 0, .slice none 0 0, .slice none 0 0, .bool false, .int .i64 0, .slice none 0 0, .slice none 0 0, .int .i64 0, .slice none 0 0] 42 ∧ CurAt wr B zs ∧ v8.heap.size ≤ wr.heap.size ∧ Within B (B + 1) w wr)
      (fun i _ => 5 - (intOf i).toNat)
    case atStart => exact ⟨1, [], none, 0, rfl, by omega, by simp [Hid], ownL_nil _ _ _ (Nat.le_refl _), bX, bR, hc, Nat.le_refl _, HW⟩
    case round =>
      obtain ⟨k, ls, aL, cL, rfl, hk, hll, oL, bXr, bRr, hcr, hsr, HWr⟩ := hrel
      clear bX bR hc HW
      by_cases hlt : k < 5
      case neg =>
        have hkk : ¬ (k : Int) < 5 := by omega
        have bT : Box wr v3.heap.size (RecA.cells ⟨5 + (x1 : Int), 0, 0, 1 + (x3 : Int), 0, zeroS, zeroS, 0, ls, aL, cL⟩) 42 := bXr
        have oT : RecA.own wr v8.heap.size wr.heap.size ⟨5 + (x1 : Int), 0, 0, 1 + (x3 : Int), 0, zeroS, zeroS, 0, ls, aL, cL⟩ := own_lives _ _ _ _ _ _ oL
        have HSH : Hid (RecA.short ⟨5 + (x1 : Int), 0, 0, 1 + (x3 : Int), 0, zeroS, zeroS, 0, ls, aL, cL⟩ 10) := ⟨⟨Nat.zero_le _, Nat.zero_le _⟩, ⟨Nat.zero_le _, Nat.zero_le _⟩, by show ls.length ≤ 10; have := hll.out; omega⟩
        generalize hT : ((⟨5 + (x1 : Int), 0, 0, 1 + (x3 : Int), 0, zeroS, zeroS, 0, ls, aL, cL⟩) : RecA) = TT at *
        clear hT
        obtain ⟨WF, hWF, hwF, hsF, HTF, HLF, _⟩ := rec_out TT _ rfl bRr
        have HF : Hid (Drawn w WF B zs (.returned (.agg TT.cells.toArray))) := ⟨TT, rfl, HSH.out, (oT.within hwF (by omega)).widen (by omega) (by omega) (Nat.le_refl _), hcr.within hwF (by omega), HWr.new hwF (Nat.le_refl _)⟩
        have rT := Box.range [] TT.cells [] (by simpa using bT : Box wr v3.heap.size ([] ++ (TT.cells ++ [])) 42)
        clear hwF hsF bXr
        go_wp2_with (first | (guard_target = wpList _ _ _ (Oper.mk (some 74) _ _ _ _ _ :: _) _ _; refine wpList_load_mid rfl 42 (.tmp 3) rfl v3.heap.size 0 rfl TT.cells _ rT Tryz.underlying42 rfl (rec_info _) ?_) | (guard_target = wpList _ _ _ (Oper.mk none (Op.store _ (Operand.tmp 2) _) _ _ _ _ :: _) _ _; refine wpList_store_mid rfl 42 (.tmp 2) (.tmp 74) rfl w.heap.size 0 TT.cells.toArray rfl rfl HTF.out (by rw [List.size_toArray]; exact rec_info _) (rec_one _) ?_) | fail)
        rw [hWF.out]
        exact bodyPost_ret (v := .agg TT.cells.toArray) (results_one Tryz.results65 rfl HLF.out) rfl HF.out
      case pos =>
        have hkp : (k : Int) < 5 := by omega
        go_wp2_with fail
        refine (l1Once_any B zs 2 wr hcr hl (by omega)).mono ?_
        clear hcr
        rintro e c1 ⟨bb, rfl, hcr, hg1⟩
        have hw1 := within_cur hg1
        clear hg1
        have z1 := hw1.size
        replace bXr := bXr.within hw1 (by omega)
        replace bRr := bRr.within hw1 (by omega)
        replace oL := oL.within hw1 (by omega)
        replace HWr := HWr.trans hw1
        clear hw1
        cases bb with
        | false =>
          go_wp2_with fail
          go_roundw
          case rel => exact ⟨k + 1, ls, aL, cL, by go_num, by omega, by have := hll.out; rw [Hid]; omega, oL.widen (Nat.le_refl _) (by omega) (Nat.le_refl _), bXr, bRr, hcr, by omega, HWr⟩
          case measure => simp [intOf]; omega
        | true =>
          go_wp2_with fail
          refine wp_region_held_drew (S := fun _ => True) (by kernel_rfl) trivial (fun hHeld => ?_)
          replace bXr : Box c1.drew v3.heap.size [.int .i64 (5 + (x1 : Int)), .int .i64 0, .int .i64 0, .int .i64 (1 + (x3 : Int)), .int .i64 0, .bool false, .int .i64 0, .slice none 0 0, .slice none 0 0, .bool false, .int .i64 0, .slice none 0 0, .slice none 0 0, .int .i64 0, .slice aL ls.length cL] 42 := bXr
          replace bRr : Box c1.drew w.heap.size [.int .i64 0, .int .i64 0, .int .i64 0, .int .i64 0, .int .i64 0, .bool false, .int .i64 0, .slice none 0 0, .slice none 0 0, .bool false, .int .i64 0, .slice none 0 0, .slice none 0 0, .int .i64 0, .slice none 0 0] 42 := bRr
          replace oL : OwnL c1.drew v8.heap.size wr.heap.size aL cL ls := oL.below (Below.refl _ _).drew
          replace hcr : CurAt c1.drew B zs := hcr
          replace HWr : Within B (B + 1) w c1.drew := HWr.trans (Within.of_below (Below.refl _ _).drew)
          have z1' : wr.heap.size ≤ c1.drew.heap.size := z1
          generalize c1.drew = d1 at *
          refine wpAnyH_take (i := 0) (v := .pointer (some ⟨v3.heap.size, 14, none⟩)) rfl (by kernel_rfl) (by kernel_rfl) (by kernel_rfl) (fun _ _ _ h => h) (Or.inl ⟨by rfl, ?_⟩) hHeld ?_
          · intro w' hSw
            go_simp <;> rfl
          try simp only [Act.put, List.getElem_toArray, List.getElem_cons_zero, List.setIfInBounds_toArray, List.set_cons_zero, List.set_cons_succ]
          refine wpAnyH_take (i := 2) (v := .int .i64 (k : Int)) rfl (by kernel_rfl) (by kernel_rfl) (by kernel_rfl) (fun _ _ _ h => h) (Or.inl ⟨by rfl, ?_⟩) hHeld ?_
          · intro w' hSw
            go_simp <;> rfl
          try simp only [Act.put, List.getElem_toArray, List.getElem_cons_zero, List.getElem_cons_succ, List.setIfInBounds_toArray, List.set_cons_zero, List.set_cons_succ]
          refine wpAnyH_take (i := 3) (v := .pointer (some ⟨B, 0, none⟩)) rfl (by kernel_rfl) (by kernel_rfl) (by kernel_rfl) (fun _ _ _ h => h) (Or.inl ⟨by rfl, ?_⟩) hHeld ?_
          · intro w' hSw
            go_simp <;> rfl
          try simp only [Act.put, List.getElem_toArray, List.getElem_cons_zero, List.getElem_cons_succ, List.setIfInBounds_toArray, List.set_cons_zero, List.set_cons_succ]
          refine wpAnyH_take (i := 6) (v := .pointer (some ⟨B, 0, none⟩)) rfl (by kernel_rfl) (by kernel_rfl) (by kernel_rfl) (fun _ _ _ h => h) (Or.inl ⟨by rfl, ?_⟩) hHeld ?_
          · intro w' hSw
            go_simp <;> rfl
          try simp only [Act.put, List.getElem_toArray, List.getElem_cons_zero, List.getElem_cons_succ, List.setIfInBounds_toArray, List.set_cons_zero, List.set_cons_succ]
          refine wpAnyH_ready (rs := [1, 4]) (by kernel_rfl) (by simp) ?_
          refine AllReadyH.cons rfl (fun K hK => ?_) (AllReadyH.cons rfl (fun K hK => ?_) AllReadyH.nil)
          focus
            have y14 := bXr.cell 14 _ rfl
            go_simp
            refine hK.out _ _ trivial (fun hHeld => ?_)
            clear hK K y14
            try simp only [Act.put, List.getElem_toArray, List.getElem_cons_zero, List.getElem_cons_succ, List.setIfInBounds_toArray, List.set_cons_zero, List.set_cons_succ]
            refine wpAnyH_ready (rs := [4]) (by kernel_rfl) (by simp) ?_
            refine AllReadyH.cons rfl (fun K hK => ?_) AllReadyH.nil
            go_simp
            refine (l1Below_any B zs 4 d1 hcr hl (by omega)).mono ?_
            clear hcr
            rintro e d1a ⟨y, rfl, hy, hcr, hgy⟩
            replace hy : (y : Int) < 4 := hy (by decide)
            have hwrap : IntKind.i64.wrap (1 + (y : Int)) = 1 + (y : Int) := by rw [IntKind.wrap_i64]; omega
            have hwy := within_cur hgy
            clear hgy
            have zy := hwy.size
            replace bXr := bXr.within hwy (by omega)
            replace bRr := bRr.within hwy (by omega)
            replace oL := oL.within hwy (by omega)
            replace HWr := HWr.trans hwy
            clear hwy
            refine hK.out _ _ trivial (fun hHeld => ?_)
            clear hK K
            try simp only [Act.put, List.getElem_toArray, List.getElem_cons_zero, List.getElem_cons_succ, List.setIfInBounds_toArray, List.set_cons_zero, List.set_cons_succ]
            refine wpAnyH_take (i := 5) (v := .int .i64 (1 + (y : Int))) rfl (by kernel_rfl) (by kernel_rfl) (by kernel_rfl) (fun _ _ _ h => h) (Or.inl ⟨by rfl, ?_⟩) hHeld ?_
            · intro w' hSw
              go_simp <;> rfl
            try simp only [Act.put, List.getElem_toArray, List.getElem_cons_zero, List.getElem_cons_succ, List.setIfInBounds_toArray, List.set_cons_zero, List.set_cons_succ]
            refine wpAnyH_ready (rs := [7]) (by kernel_rfl) (by simp) ?_
            refine AllReadyH.cons rfl (fun K hK => ?_) AllReadyH.nil
            go_simp
            refine (l1Once_any B zs 2 d1a hcr hl (by omega)).mono ?_
            clear hcr
            rintro e d1ab ⟨b2, rfl, hcr, hgy⟩
            have hwy := within_cur hgy
            clear hgy
            have zz := hwy.size
            replace bXr := bXr.within hwy (by omega)
            replace bRr := bRr.within hwy (by omega)
            replace oL := oL.within hwy (by omega)
            replace HWr := HWr.trans hwy
            clear hwy
            refine hK.out _ _ trivial (fun hHeld => ?_)
            clear hK K
            try simp only [Act.put, List.getElem_toArray, List.getElem_cons_zero, List.getElem_cons_succ, List.setIfInBounds_toArray, List.set_cons_zero, List.set_cons_succ]
            refine wpAnyH_take (i := 8) (v := .agg #[.int .i64 (k : Int), .int .i64 (1 + (y : Int)), .bool b2]) rfl (by kernel_rfl) (by kernel_rfl) (by kernel_rfl) (fun _ _ _ h => h) (Or.inl ⟨by rfl, ?_⟩) hHeld ?_
            · intro w' hSw
              go_simp <;> rfl
            try simp only [Act.put, List.getElem_toArray, List.getElem_cons_zero, List.getElem_cons_succ, List.setIfInBounds_toArray, List.set_cons_zero, List.set_cons_succ]
            refine wpAnyH_ready (rs := [9]) (by kernel_rfl) (by simp) ?_
            refine AllReadyH.cons rfl (fun K hK => ?_) AllReadyH.nil
            go_simp
            have hrz := readsL_one d1ab ⟨(k : Int), 1 + (y : Int), b2⟩ 62
            simp only at hrz
            have hbA : Below d1ab.heap.size d1ab (d1ab.alloc (.cells #[.int .i64 (k : Int), .int .i64 (1 + (y : Int)), .bool b2] 62)) := (Below.refl _ _).alloc (Nat.le_refl _) _
            have zA := hbA.size
            replace bXr := bXr.below hbA bXr.lt
            replace bRr := bRr.below hbA bRr.lt
            replace oL := oL.below hbA
            replace hcr := hcr.below hbA
            replace HWr := HWr.trans (Within.of_below hbA)
            clear hbA
            have zq : d1ab.heap.size < (d1ab.alloc (.cells #[.int .i64 (k : Int), .int .i64 (1 + (y : Int)), .bool b2] 62)).heap.size := by rw [World.size_alloc]; omega
            refine hK.out _ _ trivial (fun hHeld => ?_)
            clear hK K
            try simp only [Act.put, List.getElem_toArray, List.getElem_cons_zero, List.getElem_cons_succ, List.setIfInBounds_toArray, List.set_cons_zero, List.set_cons_succ]
            refine wpAnyH_ready (rs := [10]) (by kernel_rfl) (by simp) ?_
            refine AllReadyH.cons rfl (fun K hK => ?_) AllReadyH.nil
            refine step_append_lives rfl _ _ rfl v8.heap.size _ aL cL ls rfl oL (some ⟨d1ab.heap.size, 0, none⟩) 1 [⟨(k : Int), 1 + (y : Int), b2⟩] rfl hrz (fun h => by cases h) (by simp only [List.length_cons, List.length_nil]; have := hll.out; omega) (by omega) ?_
            intro a9 c9 ys w9 hys o9 g9 _
            have hw9 : Within v8.heap.size wr.heap.size (d1ab.alloc (.cells #[.int .i64 (k : Int), .int .i64 (1 + (y : Int)), .bool b2] 62)) w9 := Within.of_grown g9 (fun j hj => oL.lt j hj)
            have z9 := hw9.size
            replace bXr := bXr.within hw9 (by omega)
            replace bRr := bRr.within hw9 (by omega)
            replace hcr := hcr.within hw9 (by omega)
            replace HWr := HWr.new hw9 (by omega)
            clear hw9 g9 oL hrz
            refine hK.out _ _ trivial (fun hHeld => ?_)
            clear hK K
            try simp only [Act.put, List.getElem_toArray, List.getElem_cons_zero, List.getElem_cons_succ, List.setIfInBounds_toArray, List.set_cons_zero, List.set_cons_succ]
            refine wpAnyH_take (i := 11) (v := .pointer (some ⟨v3.heap.size, 14, none⟩)) rfl (by kernel_rfl) (by kernel_rfl) (by kernel_rfl) (fun _ _ _ h => h) (Or.inl ⟨by rfl, ?_⟩) hHeld ?_
            · intro w' hSw
              go_simp <;> rfl
            try simp only [Act.put, List.getElem_toArray, List.getElem_cons_zero, List.getElem_cons_succ, List.setIfInBounds_toArray, List.set_cons_zero, List.set_cons_succ]
            have y14 := bXr.cell 14 _ rfl
            have f14 := bXr.frozen 14
            obtain ⟨V2, hV2, bX2, hw2, hs2⟩ := box_set bXr 14 (.slice a9 ys.length c9)
            simp only [List.set] at bX2
            replace o9 : OwnL V2 v8.heap.size V2.heap.size a9 c9 ys := (o9.within hw2 (by omega)).widen (Nat.le_refl _) (by omega) (Nat.le_refl _)
            replace bRr := bRr.within hw2 (by omega)
            replace hcr := hcr.within hw2 (by omega)
            replace HWr := HWr.new hw2 (by omega)
            have HYL : Hid (ys.length ≤ k + 1) := by rw [Hid, hys.out]; simp; have := hll.out; omega
            have hz2 : v8.heap.size ≤ V2.heap.size := by omega
            clear hw2 hs2 bXr
            refine wpAnyH_ready (rs := [12]) (by kernel_rfl) (by simp) ?_
            refine AllReadyH.cons rfl (fun K hK => ?_) AllReadyH.nil
            go_simp
            rw [hV2.out]
            refine hK.out _ _ trivial (fun hHeld => ?_)
            clear hK K
            refine wpAnyH_done (by kernel_rfl) ?_ _
            clear hHeld y14 f14 hV2
            go_wp2_with fail
            go_roundw
            case rel => exact ⟨k + 1, ys, a9, c9, by go_num, by omega, HYL, o9, bX2, bRr, hcr, hz2, HWr⟩
            case measure => simp [intOf]; omega
          focus
            go_simp
            refine (l1Below_any B zs 4 d1 hcr hl (by omega)).mono ?_
            clear hcr
            rintro e d1a ⟨y, rfl, hy, hcr, hgy⟩
            replace hy : (y : Int) < 4 := hy (by decide)
            have hwrap : IntKind.i64.wrap (1 + (y : Int)) = 1 + (y : Int) := by rw [IntKind.wrap_i64]; omega
            have hwy := within_cur hgy
            clear hgy
            have zy := hwy.size
            replace bXr := bXr.within hwy (by omega)
            replace bRr := bRr.within hwy (by omega)
            replace oL := oL.within hwy (by omega)
            replace HWr := HWr.trans hwy
            clear hwy
            refine hK.out _ _ trivial (fun hHeld => ?_)
            clear hK K
            try simp only [Act.put, List.getElem_toArray, List.getElem_cons_zero, List.getElem_cons_succ, List.setIfInBounds_toArray, List.set_cons_zero, List.set_cons_succ]
            refine wpAnyH_take (i := 5) (v := .int .i64 (1 + (y : Int))) rfl (by kernel_rfl) (by kernel_rfl) (by kernel_rfl) (fun _ _ _ h => h) (Or.inl ⟨by rfl, ?_⟩) hHeld ?_
            · intro w' hSw
              go_simp <;> rfl
            try simp only [Act.put, List.getElem_toArray, List.getElem_cons_zero, List.getElem_cons_succ, List.setIfInBounds_toArray, List.set_cons_zero, List.set_cons_succ]
            refine wpAnyH_ready (rs := [1, 7]) (by kernel_rfl) (by simp) ?_
            refine AllReadyH.cons rfl (fun K hK => ?_) (AllReadyH.cons rfl (fun K hK => ?_) AllReadyH.nil)
            focus
              have y14 := bXr.cell 14 _ rfl
              go_simp
              refine hK.out _ _ trivial (fun hHeld => ?_)
              clear hK K y14
              try simp only [Act.put, List.getElem_toArray, List.getElem_cons_zero, List.getElem_cons_succ, List.setIfInBounds_toArray, List.set_cons_zero, List.set_cons_succ]
              refine wpAnyH_ready (rs := [7]) (by kernel_rfl) (by simp) ?_
              refine AllReadyH.cons rfl (fun K hK => ?_) AllReadyH.nil
              go_simp
              refine (l1Once_any B zs 2 d1a hcr hl (by omega)).mono ?_
              clear hcr
              rintro e d1ab ⟨b2, rfl, hcr, hgy⟩
              have hwy := within_cur hgy
              clear hgy
              have zz := hwy.size
              replace bXr := bXr.within hwy (by omega)
              replace bRr := bRr.within hwy (by omega)
              replace oL := oL.within hwy (by omega)
              replace HWr := HWr.trans hwy
              clear hwy
              refine hK.out _ _ trivial (fun hHeld => ?_)
              clear hK K
              try simp only [Act.put, List.getElem_toArray, List.getElem_cons_zero, List.getElem_cons_succ, List.setIfInBounds_toArray, List.set_cons_zero, List.set_cons_succ]
              refine wpAnyH_take (i := 8) (v := .agg #[.int .i64 (k : Int), .int .i64 (1 + (y : Int)), .bool b2]) rfl (by kernel_rfl) (by kernel_rfl) (by kernel_rfl) (fun _ _ _ h => h) (Or.inl ⟨by rfl, ?_⟩) hHeld ?_
              · intro w' hSw
                go_simp <;> rfl
              try simp only [Act.put, List.getElem_toArray, List.getElem_cons_zero, List.getElem_cons_succ, List.setIfInBounds_toArray, List.set_cons_zero, List.set_cons_succ]
              refine wpAnyH_ready (rs := [9]) (by kernel_rfl) (by simp) ?_
              refine AllReadyH.cons rfl (fun K hK => ?_) AllReadyH.nil
              go_simp
              have hrz := readsL_one d1ab ⟨(k : Int), 1 + (y : Int), b2⟩ 62
              simp only at hrz
              have hbA : Below d1ab.heap.size d1ab (d1ab.alloc (.cells #[.int .i64 (k : Int), .int .i64 (1 + (y : Int)), .bool b2] 62)) := (Below.refl _ _).alloc (Nat.le_refl _) _
              have zA := hbA.size
              replace bXr := bXr.below hbA bXr.lt
              replace bRr := bRr.below hbA bRr.lt
              replace oL := oL.below hbA
              replace hcr := hcr.below hbA
              replace HWr := HWr.trans (Within.of_below hbA)
              clear hbA
              have zq : d1ab.heap.size < (d1ab.alloc (.cells #[.int .i64 (k : Int), .int .i64 (1 + (y : Int)), .bool b2] 62)).heap.size := by rw [World.size_alloc]; omega
              refine hK.out _ _ trivial (fun hHeld => ?_)
              clear hK K
              try simp only [Act.put, List.getElem_toArray, List.getElem_cons_zero, List.getElem_cons_succ, List.setIfInBounds_toArray, List.set_cons_zero, List.set_cons_succ]
              refine wpAnyH_ready (rs := [10]) (by kernel_rfl) (by simp) ?_
              refine AllReadyH.cons rfl (fun K hK => ?_) AllReadyH.nil
              refine step_append_lives rfl _ _ rfl v8.heap.size _ aL cL ls rfl oL (some ⟨d1ab.heap.size, 0, none⟩) 1 [⟨(k : Int), 1 + (y : Int), b2⟩] rfl hrz (fun h => by cases h) (by simp only [List.length_cons, List.length_nil]; have := hll.out; omega) (by omega) ?_
              intro a9 c9 ys w9 hys o9 g9 _
              have hw9 : Within v8.heap.size wr.heap.size (d1ab.alloc (.cells #[.int .i64 (k : Int), .int .i64 (1 + (y : Int)), .bool b2] 62)) w9 := Within.of_grown g9 (fun j hj => oL.lt j hj)
              have z9 := hw9.size
              replace bXr := bXr.within hw9 (by omega)
              replace bRr := bRr.within hw9 (by omega)
              replace hcr := hcr.within hw9 (by omega)
              replace HWr := HWr.new hw9 (by omega)
              clear hw9 g9 oL hrz
              refine hK.out _ _ trivial (fun hHeld => ?_)
              clear hK K
              try simp only [Act.put, List.getElem_toArray, List.getElem_cons_zero, List.getElem_cons_succ, List.setIfInBounds_toArray, List.set_cons_zero, List.set_cons_succ]
              refine wpAnyH_take (i := 11) (v := .pointer (some ⟨v3.heap.size, 14, none⟩)) rfl (by kernel_rfl) (by kernel_rfl) (by kernel_rfl) (fun _ _ _ h => h) (Or.inl ⟨by rfl, ?_⟩) hHeld ?_
              · intro w' hSw
                go_simp <;> rfl
              try simp only [Act.put, List.getElem_toArray, List.getElem_cons_zero, List.getElem_cons_succ, List.setIfInBounds_toArray, List.set_cons_zero, List.set_cons_succ]
              have y14 := bXr.cell 14 _ rfl
              have f14 := bXr.frozen 14
              obtain ⟨V2, hV2, bX2, hw2, hs2⟩ := box_set bXr 14 (.slice a9 ys.length c9)
              simp only [List.set] at bX2
              replace o9 : OwnL V2 v8.heap.size V2.heap.size a9 c9 ys := (o9.within hw2 (by omega)).widen (Nat.le_refl _) (by omega) (Nat.le_refl _)
              replace bRr := bRr.within hw2 (by omega)
              replace hcr := hcr.within hw2 (by omega)
              replace HWr := HWr.new hw2 (by omega)
              have HYL : Hid (ys.length ≤ k + 1) := by rw [Hid, hys.out]; simp; have := hll.out; omega
              have hz2 : v8.heap.size ≤ V2.heap.size := by omega
              clear hw2 hs2 bXr
              refine wpAnyH_ready (rs := [12]) (by kernel_rfl) (by simp) ?_
              refine AllReadyH.cons rfl (fun K hK => ?_) AllReadyH.nil
              go_simp
              rw [hV2.out]
              refine hK.out _ _ trivial (fun hHeld => ?_)
              clear hK K
              refine wpAnyH_done (by kernel_rfl) ?_ _
              clear hHeld y14 f14 hV2
              go_wp2_with fail
              go_roundw
              case rel => exact ⟨k + 1, ys, a9, c9, by go_num, by omega, HYL, o9, bX2, bRr, hcr, hz2, HWr⟩
              case measure => simp [intOf]; omega
            focus
              go_simp
              refine (l1Once_any B zs 2 d1a hcr hl (by omega)).mono ?_
              clear hcr
              rintro e d1ab ⟨b2, rfl, hcr, hgy⟩
              have hwy := within_cur hgy
              clear hgy
              have zz := hwy.size
              replace bXr := bXr.within hwy (by omega)
              replace bRr := bRr.within hwy (by omega)
              replace oL := oL.within hwy (by omega)
              replace HWr := HWr.trans hwy
              clear hwy
              refine hK.out _ _ trivial (fun hHeld => ?_)
              clear hK K
              try simp only [Act.put, List.getElem_toArray, List.getElem_cons_zero, List.getElem_cons_succ, List.setIfInBounds_toArray, List.set_cons_zero, List.set_cons_succ]
              refine wpAnyH_take (i := 8) (v := .agg #[.int .i64 (k : Int), .int .i64 (1 + (y : Int)), .bool b2]) rfl (by kernel_rfl) (by kernel_rfl) (by kernel_rfl) (fun _ _ _ h => h) (Or.inl ⟨by rfl, ?_⟩) hHeld ?_
              · intro w' hSw
                go_simp <;> rfl
              try simp only [Act.put, List.getElem_toArray, List.getElem_cons_zero, List.getElem_cons_succ, List.setIfInBounds_toArray, List.set_cons_zero, List.set_cons_succ]
              refine wpAnyH_ready (rs := [1, 9]) (by kernel_rfl) (by simp) ?_
              refine AllReadyH.cons rfl (fun K hK => ?_) (AllReadyH.cons rfl (fun K hK => ?_) AllReadyH.nil)
              focus
                have y14 := bXr.cell 14 _ rfl
                go_simp
                refine hK.out _ _ trivial (fun hHeld => ?_)
                clear hK K y14
                try simp only [Act.put, List.getElem_toArray, List.getElem_cons_zero, List.getElem_cons_succ, List.setIfInBounds_toArray, List.set_cons_zero, List.set_cons_succ]
                refine wpAnyH_ready (rs := [9]) (by kernel_rfl) (by simp) ?_
                refine AllReadyH.cons rfl (fun K hK => ?_) AllReadyH.nil
                go_simp
                have hrz := readsL_one d1ab ⟨(k : Int), 1 + (y : Int), b2⟩ 62
                simp only at hrz
                have hbA : Below d1ab.heap.size d1ab (d1ab.alloc (.cells #[.int .i64 (k : Int), .int .i64 (1 + (y : Int)), .bool b2] 62)) := (Below.refl _ _).alloc (Nat.le_refl _) _
                have zA := hbA.size
                replace bXr := bXr.below hbA bXr.lt
                replace bRr := bRr.below hbA bRr.lt
                replace oL := oL.below hbA
                replace hcr := hcr.below hbA
                replace HWr := HWr.trans (Within.of_below hbA)
                clear hbA
                have zq : d1ab.heap.size < (d1ab.alloc (.cells #[.int .i64 (k : Int), .int .i64 (1 + (y : Int)), .bool b2] 62)).heap.size := by rw [World.size_alloc]; omega
                refine hK.out _ _ trivial (fun hHeld => ?_)
                clear hK K
                try simp only [Act.put, List.getElem_toArray, List.getElem_cons_zero, List.getElem_cons_succ, List.setIfInBounds_toArray, List.set_cons_zero, List.set_cons_succ]
                refine wpAnyH_ready (rs := [10]) (by kernel_rfl) (by simp) ?_
                refine AllReadyH.cons rfl (fun K hK => ?_) AllReadyH.nil
                refine step_append_lives rfl _ _ rfl v8.heap.size _ aL cL ls rfl oL (some ⟨d1ab.heap.size, 0, none⟩) 1 [⟨(k : Int), 1 + (y : Int), b2⟩] rfl hrz (fun h => by cases h) (by simp only [List.length_cons, List.length_nil]; have := hll.out; omega) (by omega) ?_
                intro a9 c9 ys w9 hys o9 g9 _
                have hw9 : Within v8.heap.size wr.heap.size (d1ab.alloc (.cells #[.int .i64 (k : Int), .int .i64 (1 + (y : Int)), .bool b2] 62)) w9 := Within.of_grown g9 (fun j hj => oL.lt j hj)
                have z9 := hw9.size
                replace bXr := bXr.within hw9 (by omega)
                replace bRr := bRr.within hw9 (by omega)
                replace hcr := hcr.within hw9 (by omega)
                replace HWr := HWr.new hw9 (by omega)
                clear hw9 g9 oL hrz
                refine hK.out _ _ trivial (fun hHeld => ?_)
                clear hK K
                try simp only [Act.put, List.getElem_toArray, List.getElem_cons_zero, List.getElem_cons_succ, List.setIfInBounds_toArray, List.set_cons_zero, List.set_cons_succ]
                refine wpAnyH_take (i := 11) (v := .pointer (some ⟨v3.heap.size, 14, none⟩)) rfl (by kernel_rfl) (by kernel_rfl) (by kernel_rfl) (fun _ _ _ h => h) (Or.inl ⟨by rfl, ?_⟩) hHeld ?_
                · intro w' hSw
                  go_simp <;> rfl
                try simp only [Act.put, List.getElem_toArray, List.getElem_cons_zero, List.getElem_cons_succ, List.setIfInBounds_toArray, List.set_cons_zero, List.set_cons_succ]
                have y14 := bXr.cell 14 _ rfl
                have f14 := bXr.frozen 14
                obtain ⟨V2, hV2, bX2, hw2, hs2⟩ := box_set bXr 14 (.slice a9 ys.length c9)
                simp only [List.set] at bX2
                replace o9 : OwnL V2 v8.heap.size V2.heap.size a9 c9 ys := (o9.within hw2 (by omega)).widen (Nat.le_refl _) (by omega) (Nat.le_refl _)
                replace bRr := bRr.within hw2 (by omega)
                replace hcr := hcr.within hw2 (by omega)
                replace HWr := HWr.new hw2 (by omega)
                have HYL : Hid (ys.length ≤ k + 1) := by rw [Hid, hys.out]; simp; have := hll.out; omega
                have hz2 : v8.heap.size ≤ V2.heap.size := by omega
                clear hw2 hs2 bXr
                refine wpAnyH_ready (rs := [12]) (by kernel_rfl) (by simp) ?_
                refine AllReadyH.cons rfl (fun K hK => ?_) AllReadyH.nil
                go_simp
                rw [hV2.out]
                refine hK.out _ _ trivial (fun hHeld => ?_)
                clear hK K
                refine wpAnyH_done (by kernel_rfl) ?_ _
                clear hHeld y14 f14 hV2
                go_wp2_with fail
                go_roundw
                case rel => exact ⟨k + 1, ys, a9, c9, by go_num, by omega, HYL, o9, bX2, bRr, hcr, hz2, HWr⟩
                case measure => simp [intOf]; omega
              focus
                go_simp
                have hrz := readsL_one d1ab ⟨(k : Int), 1 + (y : Int), b2⟩ 62
                simp only at hrz
                have hbA : Below d1ab.heap.size d1ab (d1ab.alloc (.cells #[.int .i64 (k : Int), .int .i64 (1 + (y : Int)), .bool b2] 62)) := (Below.refl _ _).alloc (Nat.le_refl _) _
                have zA := hbA.size
                replace bXr := bXr.below hbA bXr.lt
                replace bRr := bRr.below hbA bRr.lt
                replace oL := oL.below hbA
                replace hcr := hcr.below hbA
                replace HWr := HWr.trans (Within.of_below hbA)
                clear hbA
                have zq : d1ab.heap.size < (d1ab.alloc (.cells #[.int .i64 (k : Int), .int .i64 (1 + (y : Int)), .bool b2] 62)).heap.size := by rw [World.size_alloc]; omega
                refine hK.out _ _ trivial (fun hHeld => ?_)
                clear hK K
                try simp only [Act.put, List.getElem_toArray, List.getElem_cons_zero, List.getElem_cons_succ, List.setIfInBounds_toArray, List.set_cons_zero, List.set_cons_succ]
                refine wpAnyH_ready (rs := [1]) (by kernel_rfl) (by simp) ?_
                refine AllReadyH.cons rfl (fun K hK => ?_) AllReadyH.nil
                have y14 := bXr.cell 14 _ rfl
                go_simp
                refine hK.out _ _ trivial (fun hHeld => ?_)
                clear hK K y14
                try simp only [Act.put, List.getElem_toArray, List.getElem_cons_zero, List.getElem_cons_succ, List.setIfInBounds_toArray, List.set_cons_zero, List.set_cons_succ]
                refine wpAnyH_ready (rs := [10]) (by kernel_rfl) (by simp) ?_
                refine AllReadyH.cons rfl (fun K hK => ?_) AllReadyH.nil
                refine step_append_lives rfl _ _ rfl v8.heap.size _ aL cL ls rfl oL (some ⟨d1ab.heap.size, 0, none⟩) 1 [⟨(k : Int), 1 + (y : Int), b2⟩] rfl hrz (fun h => by cases h) (by simp only [List.length_cons, List.length_nil]; have := hll.out; omega) (by omega) ?_
                intro a9 c9 ys w9 hys o9 g9 _
                have hw9 : Within v8.heap.size wr.heap.size (d1ab.alloc (.cells #[.int .i64 (k : Int), .int .i64 (1 + (y : Int)), .bool b2] 62)) w9 := Within.of_grown g9 (fun j hj => oL.lt j hj)
                have z9 := hw9.size
                replace bXr := bXr.within hw9 (by omega)
                replace bRr := bRr.within hw9 (by omega)
                replace hcr := hcr.within hw9 (by omega)
                replace HWr := HWr.new hw9 (by omega)
                clear hw9 g9 oL hrz
                refine hK.out _ _ trivial (fun hHeld => ?_)
                clear hK K
                try simp only [Act.put, List.getElem_toArray, List.getElem_cons_zero, List.getElem_cons_succ, List.setIfInBounds_toArray, List.set_cons_zero, List.set_cons_succ]
                refine wpAnyH_take (i := 11) (v := .pointer (some ⟨v3.heap.size, 14, none⟩)) rfl (by kernel_rfl) (by kernel_rfl) (by kernel_rfl) (fun _ _ _ h => h) (Or.inl ⟨by rfl, ?_⟩) hHeld ?_
                · intro w' hSw
                  go_simp <;> rfl
                try simp only [Act.put, List.getElem_toArray, List.getElem_cons_zero, List.getElem_cons_succ, List.setIfInBounds_toArray, List.set_cons_zero, List.set_cons_succ]
                have y14 := bXr.cell 14 _ rfl
                have f14 := bXr.frozen 14
                obtain ⟨V2, hV2, bX2, hw2, hs2⟩ := box_set bXr 14 (.slice a9 ys.length c9)
                simp only [List.set] at bX2
                replace o9 : OwnL V2 v8.heap.size V2.heap.size a9 c9 ys := (o9.within hw2 (by omega)).widen (Nat.le_refl _) (by omega) (Nat.le_refl _)
                replace bRr := bRr.within hw2 (by omega)
                replace hcr := hcr.within hw2 (by omega)
                replace HWr := HWr.new hw2 (by omega)
                have HYL : Hid (ys.length ≤ k + 1) := by rw [Hid, hys.out]; simp; have := hll.out; omega
                have hz2 : v8.heap.size ≤ V2.heap.size := by omega
                clear hw2 hs2 bXr
                refine wpAnyH_ready (rs := [12]) (by kernel_rfl) (by simp) ?_
                refine AllReadyH.cons rfl (fun K hK => ?_) AllReadyH.nil
                go_simp
                rw [hV2.out]
                refine hK.out _ _ trivial (fun hHeld => ?_)
                clear hK K
                refine wpAnyH_done (by kernel_rfl) ?_ _
                clear hHeld y14 f14 hV2
                go_wp2_with fail
                go_roundw
                case rel => exact ⟨k + 1, ys, a9, c9, by go_num, by omega, HYL, o9, bX2, bRr, hcr, hz2, HWr⟩
                case measure => simp [intOf]; omega
end Go.Proofs.YtickiokdcbeefaaGreatDoor
