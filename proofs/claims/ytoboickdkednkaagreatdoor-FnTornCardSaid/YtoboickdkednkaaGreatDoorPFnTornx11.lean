/- Several texts in one, in their order. -/
import Derived.Test.YtoboickdkednkaaGreatDoorPFnTornx10
import Derived.Test.YtoboickdkednkaaGreatDoorPFnTornx4
import Derived.Test.YtoboickdkednkaaGreatDoorPFnTornx6
import Derived.Deep.RegionHeld3
import Derived.Deep.CutRange
import Derived.Test.YtoboickdkednkaaGreatDoorPFnTornx1
set_option maxHeartbeats 8000000
set_option maxRecDepth 100000
namespace Go.Proofs.YtoboickdkednkaaGreatDoor
open Go.RowKit
attribute [local go_sem ↓] Go.wp_at_zero Go.wp_at_succ
def recSV (tx prev oid : Int) (b a : SlotV) : RecV := ⟨0, tx, prev, 1, oid, b, a, 0, []⟩
def setV (e : EngV) (tx : Int) (o : Nat) (x : SlotV) : EngV :=
 let f := fetchV e (o / 4)
 let prev := (e.txs.getD (liveOf e.txs tx).toNat zeroL).last
 let e2 := logV f.1 (recSV tx prev o ((f.1.seats.getD f.2.toNat zeroStV).ss.getD (o % 4) ⟨false, ⟨0, [], []⟩⟩) x)
 let e3 := applyV e2 o x ((e.log.recs.length : Int) + 1)
 if holdFrom o e3.holds = 0 then { e3 with holds := e3.holds ++ [⟨tx, o⟩] } else e3
def SeatA.slot (s : SeatA) (j : Nat) : SlotA := match j with
 | 0 => s.s0
 | 1 => s.s1
 | 2 => s.s2
 | _ => s.s3
theorem slot_mem (s : SeatA) (j : Nat) (hj : j < 4) : s.slot j ∈ s.ss := by
 match j, hj with
 | 0, _ => simp [SeatA.slot, SeatA.ss]
 | 1, _ => simp [SeatA.slot, SeatA.ss]
 | 2, _ => simp [SeatA.slot, SeatA.ss]
 | 3, _ => simp [SeatA.slot, SeatA.ss]
theorem slot_v (s : SeatA) (j : Nat) (hj : j < 4) : (s.slot j).v = s.v.ss.getD j ⟨false, ⟨0, [], []⟩⟩ := by
 match j, hj with
 | 0, _ => rfl
 | 1, _ => rfl
 | 2, _ => rfl
 | 3, _ => rfl
theorem slot_range {w : World} {g b : Nat} {s : SeatA} (h : w.rangeAt g b s.cells) (j : Nat) (hj : j < 4) : w.rangeAt g (b + 1 + 1 + j * 4) (s.slot j).cells := by
 intro i v hv
 have hi : i < 4 := (List.getElem?_eq_some_iff.1 hv).1
 have h1 := h (2 + j * 4 + i) v (by
  match j, hj with
  | 0, _ => match i, hi with
   | 0, _ => exact hv
   | 1, _ => exact hv
   | 2, _ => exact hv
   | 3, _ => exact hv
  | 1, _ => match i, hi with
   | 0, _ => exact hv
   | 1, _ => exact hv
   | 2, _ => exact hv
   | 3, _ => exact hv
  | 2, _ => match i, hi with
   | 0, _ => exact hv
   | 1, _ => exact hv
   | 2, _ => exact hv
   | 3, _ => exact hv
  | 3, _ => match i, hi with
   | 0, _ => exact hv
   | 1, _ => exact hv
   | 2, _ => exact hv
   | 3, _ => exact hv)
 rw [show b + 1 + 1 + j * 4 + i = b + (2 + j * 4 + i) by omega]
 exact h1
theorem SlotA.own_below {w w' : World} {lo hi : Nat} {s : SlotA} (h : s.own w lo hi) (hb : Below w.heap.size w w') : s.own w' lo hi := OwnO.below h hb
theorem slot_info (s : SlotA) : (Tryz.prog.info? 36).map (·.size) = some s.cells.length := by show _ = some 4; kernel_rfl
theorem slot_out {w : World} {C : Nat} (q : SlotA) (old : List Value) (ho : old.length = 4) (bC : Box w C old 36) :
  ∃ WF, Hid (w.setCells C 0 q.cells = WF) ∧ Within C (C + 1) w WF ∧ WF.heap.size = w.heap.size ∧ Hid (w.there C 0 q.cells.toArray.size) ∧ Box WF C q.cells 36 := by
 obtain ⟨WF, hWF, bF, hwF, hsF⟩ := range_fill [] old q.cells [] (by simpa using bC) (by rw [ho]; rfl)
 exact ⟨WF, hWF, hwF, hsF, bC.there 0 _ (by rw [ho]; show 0 + 4 ≤ 4; decide), by simpa using bF⟩
theorem run_next {P : Program} {w w' : World} {m : Sem Value} {v : Value} (h : m.run P w = .ok v w') : (do let r ← m; pure (Next.value r) : Sem Next).run P w = .ok (.value v) w' := by simp only [Sem.run_bind, h, Result.andThen_ok, Sem.run_pure]
theorem run_buildS (w : World) (tx prev oid : Int) (b a : SlotA) : (Instr.build 39 #[(1, Value.int .i64 tx), (2, Value.int .i64 prev), (3, Value.int .i64 1), (4, Value.int .i64 oid), (5, Value.agg b.cells.toArray), (6, Value.agg a.cells.toArray)]).run Tryz.prog w = .ok (.agg (RecA.cells ⟨0, tx, prev, 1, oid, b, a, 0, [], none, 0⟩).toArray) w := run_build w _ _ _ (by kernel_rfl)
theorem EngStep.touch_trans {E : Nat} {e e' : EngA} {w w' u : World} (s : EngStep E e w e' w') (t : Touch (E :: e'.blocks) w' u) : Touch (E :: e.blocks) w u :=
 ⟨t.os.trans s.touch.os, t.tape.trans s.touch.tape, t.output.trans s.touch.output, Nat.le_trans s.size t.size, fun k hk hn => (t.block k (Nat.lt_of_lt_of_le hk s.size) (fun h => by
  rcases List.mem_cons.1 h with h | h
  ·exact hn (by simp [h])
  ·rcases s.fresh k h with h | h
   ·exact hn (List.mem_cons_of_mem _ h)
   ·omega)).trans (s.touch.block k hk hn)⟩
theorem EngStep.holdsStep {E : Nat} {e e1 : EngA} {w w1 wa w2 : World} {ys : List HoldV} {a' : Option Addr} {c' : Nat} (s : EngStep E e w e1 w1) (hA : Below w1.heap.size w1 wa) (ho : OwnH w2 0 w2.heap.size a' c' ys) (hg : wa.grownBy w2 (Value.slice e1.aH e1.holds.length e1.cH).ownBlock)
  (hf : ∀ k, (Value.slice a' ys.length c').ownBlock = some k → (Value.slice e1.aH e1.holds.length e1.cH).ownBlock = some k ∨ k = wa.heap.size) :
  ∃ W, Hid (w2.setCell ⟨E, 141, none⟩ (.slice a' ys.length c') = W) ∧ EngStep E e w (e1.withHolds ys a' c') W ∧ w2.cell? ⟨E, 141, none⟩ = some (.slice e1.aH e1.holds.length e1.cH) ∧ w2.frozen? ⟨E, 141, none⟩ = false := by
 have a1 := s.at'.below hA
 have t2 : Touch (rowOf e1.aH e1.holds.length e1.cH) wa w2 := Touch.of_grown hg (fun k hk => Option.mem_toList.2 hk)
 have hE : E ∉ rowOf e1.aH e1.holds.length e1.cH := fun h => s.at'.off (EngA.mem_holds h)
 have bx := a1.box.touch t2 hE
 obtain ⟨W, hW, b, hw, hs⟩ := box_set bx (136 + 5) (.slice a' ys.length c')
 rw [EngA.cells_set a1.shape] at b
 have tW : Touch [E] w2 W := ⟨hw.os, hw.tape, hw.output, hw.size, fun k hk hn => hw.block k hk (fun hh => hn (by simp; omega))⟩
 have hEn : E ∉ rowOf a' ys.length c' := fun h => (hf E (Option.mem_toList.1 h)).elim (fun h1 => hE (Option.mem_toList.2 h1)) (fun h1 => by have := a1.box.lt; omega)
 have oW : OwnH W 0 W.heap.size a' c' ys := (ho.touch tW (fun k hk hk' => hEn (by rw [← List.mem_singleton.1 hk']; exact Option.mem_toList.2 hk))).widen (Nat.le_refl _) (Nat.le_of_eq hs.symm) (Nat.le_refl _)
 have st : EngStep E e1 wa (e1.withHolds ys a' c') W := a1.held ys a' c' b oW ((t2.mono (fun k hk => List.mem_cons_of_mem _ hk)).trans (tW.mono (by simp))) (fun k hk => (hf k (Option.mem_toList.1 hk)).imp (fun h => Option.mem_toList.2 h) (fun h => by omega))
 exact ⟨W, hW, s.trans (EngStep.after hA st), EngA.cell_at a1.shape bx 5 _ rfl, bx.frozen _⟩
theorem l7Set_any (E : Nat) (e : EngA) (tx : Int) (o : Nat) (s : SlotA) (w : World) (h : EngAt w E e) (hp : e.v.poolOk) (h32 : o < 32) (hr : ∀ u, Touch (E :: e.blocks) w u → s.reads u) (hl : Fit [s]) (hlen : e.log.recs.length + 1 ≤ 68719476736) (hT : e.txs.length ≤ 68719476736) (hH : e.holds.length + 1 ≤ 68719476736) (hlive : 0 ≤ liveOf e.txs tx) :
  Calls Tryz.prog 121 #[.pointer (some ⟨E, 0, none⟩), .int .i64 tx, .int .i64 o, .agg s.cells.toArray] w fun r w' => (∃ v, r = .returned v) ∧ ∃ e', Hid (e'.v = setV e.v tx o s.v) ∧ EngStep E e w e' w' := by
 obtain ⟨W, hW, b0, hbW, hsW⟩ := boxes1 w s.cells 36
 have a1 := h.below hbW
 have hoff : Off E e w.heap.size := h.new (Nat.le_refl _)
 have C' : Calls Tryz.prog 119 #[.pointer (some ⟨E, 0, none⟩), .int .i64 ((o : Int) / 4)] W fun r w' => ∃ (e' : EngA) (k : Int), r = .returned (.int .i64 k) ∧ Hid (fetchV e.v (o / 4) = (e'.v, k)) ∧ Hid (e'.log.recs = e.log.recs) ∧ EngStep E e W e' w' := by
  rw [show (o : Int) / 4 = ((o / 4 : Nat) : Int) from by omega]; exact l7Fetch_any E e (o / 4) W a1 hp (by omega)
 obtain ⟨k, hk0, hkl, _⟩ := fetch_seat e.v hp (o / 4)
 have hok := fetch_ok e.v hp (o / 4) (by omega)
 obtain ⟨ft, fh, fl, _⟩ := fetch_rest e.v (o / 4)
 go_enter Tryz.func121, Tryz.ntmps121
 go_upto_region 1 with fail
 rw [hW.out]
 clear hW hsW
 go_wp2_with fail
 refine C'.mono ?_
 clear C'
 rintro r w2 ⟨e1, k1, rfl, hf, hl1, s1⟩
 rw [hf.out] at hk0 hkl hok ft fh fl
 simp only at hk0 hkl hok ft fh fl
 subst hk0
 have hk : k < e1.seats.length := by simpa [EngA.v] using hkl
 have HTX : Hid (e1.txs = e.txs) := ft
 have HHX : Hid (e1.holds = e.holds) := fh
 have b2 := s1.boxes b0 hoff
 have S1 : EngStep E e w e1 w2 := EngStep.after hbW s1
 have hoff1 := s1.off b0.lt hoff
 have hs1 := S1.size
 have hlt2 : w.heap.size < w2.heap.size := b2.lt
 have a2 := s1.at'
 obtain ⟨g, hg⟩ : ∃ g, e1.aS = some ⟨g, 0, none⟩ := by
  rcases a2.own.pool.row.2 with ⟨_, h0⟩ | ⟨g, cap', cur, hv, _⟩
  ·omega
  ·simp only [Value.slice.injEq] at hv; exact ⟨g, hv.1⟩
 have x0 : w2.cell? ⟨E, 136, none⟩ = some (.slice (some ⟨g, 0, none⟩) e1.seats.length e1.cS) := by rw [← hg]; exact EngA.cell_at a2.shape a2.box 0 _ rfl
 have ho := a2.own.pool
 rw [hg] at ho
 obtain ⟨j, hj⟩ : ∃ j : Nat, Hid (o % 4 = j) := ⟨_, rfl⟩
 have hj4 : j < 4 := by rw [← hj.out]; omega
 have r2 := slot_range (row_seat ho.row rfl k hk).1 j hj4
 have hmem := seatD_mem e1.seats k hk
 have oz := (ho.each _ hmem).each _ (slot_mem (e1.seats.getD k zeroSt) j hj4)
 have hfz : Fit [(e1.seats.getD k zeroSt).slot j] := fun y hy => by
  rw [List.mem_singleton.1 hy]
  exact hok.fitS (e1.seats.getD k zeroSt).v (List.mem_map_of_mem hmem) _ (List.mem_map_of_mem (slot_mem _ j hj4))
 have HBV : Hid (((e1.seats.getD k zeroSt).slot j).v = ((e1.v.seats.getD k zeroStV).ss.getD (o % 4) ⟨false, ⟨0, [], []⟩⟩)) := by
  rw [Hid, slot_v _ _ hj4, hj.out, show e1.v.seats = e1.seats.map SeatA.v from rfl, seatV_at]
 obtain ⟨y, hy⟩ : ∃ y, Hid ((e1.seats.getD k zeroSt).slot j = y) := ⟨_, rfl⟩
 rw [hy.out] at r2 oz hfz HBV
 have C2 := l3CopySlot_own y w2 (OwnO.reads oz) (hfz y (by simp)).1 (hfz y (by simp)).2
 have hkk : (k : Int) < (e1.seats.length : Int) := by omega
 have hki : (0 : Int) ≤ (k : Int) := by omega
 have ej : (o : Int) % 4 = (j : Int) := by have := hj.out; omega
 have hj4' : (j : Int) < 4 := by omega
 have hj0 : (0 : Int) ≤ (j : Int) := by omega
 clear ho oz hfz hmem hg hkl ft fh fl
 go_wp2_with (first | (guard_target = wpList _ _ _ (Oper.mk (some 27) _ _ _ _ _ :: _) _ _; refine wpList_load_mid rfl 36 (.tmp 26) rfl g (k * 20 + 1 + 1 + j * 4) rfl y.cells _ r2 Tryz.underlying36 rfl (slot_info y) ?_) | fail)
 refine C2.mono ?_
 clear C2 r2 x0
 rintro r w3 ⟨q, rfl, hqv, oq, hb3⟩
 have hs3 := hb3.size
 obtain ⟨W4, hW4, b4', hb4, hs4⟩ := boxes1 w3 zeroS.cells 36
 obtain ⟨W5, hW5, hw5, hs5, HT5, b5⟩ := slot_out q _ rfl b4'
 have hW4' : Hid (w3.alloc (.cells #[.bool false, .int .i64 0, .slice none 0 0, .slice none 0 0] 36) = W4) := hW4.out
 have hW5' : Hid (W4.setCells w3.heap.size 0 q.cells.toArray.toList = W5) := hW5.out
 have N35 : Below w3.heap.size w3 W5 := hb4.trans (hw5.below (Nat.le_refl _) (by omega))
 have N25 : Below w2.heap.size w2 W5 := hb3.trans (N35.mono hs3)
 have S5 := S1.below N25
 have b25 := b2.below N25 b2.lt
 have oq5 := SlotA.own_below oq N35
 have hlt5 := b5.lt
 have HO5 := slot_one q
 have hs25 := N25.size
 clear hW4 hW5 hs4 hs5 hw5 hb4 b4' ej
 go_upto_region 3 with (first | (guard_target = wpList _ _ _ (Oper.mk none (Op.store _ (Operand.tmp 9) _) _ _ _ _ :: _) _ _; refine wpList_store_mid rfl 36 (.tmp 9) (.tmp 28) rfl w3.heap.size 0 q.cells.toArray rfl rfl (by rw [hW4'.out]; exact HT5.out) (slot_info q) HO5 ?_; rw [hW4'.out, hW5'.out]) | fail)
 clear hW4' hW5' HT5 HO5
 simp only [Act.put]
 obtain ⟨kT, hkT, hkTl⟩ : ∃ kT : Nat, liveOf e1.txs tx = kT ∧ kT < e1.txs.length := by
  rw [HTX.out]
  rcases live_cases e.txs tx with h1 | h1
  ·omega
  ·exact h1
 obtain ⟨gT, hgT⟩ : ∃ gT, e1.aT = some ⟨gT, 0, none⟩ := by
  rcases S5.at'.own.txs.1.2 with ⟨_, h0⟩ | ⟨g', cap', cur, hv, _⟩
  ·omega
  ·simp only [Value.slice.injEq] at hv; exact ⟨g', hv.1⟩
 obtain ⟨lst, hlst⟩ : ∃ lst, Hid ((e1.txs.getD kT zeroL).last = lst) := ⟨_, rfl⟩
 have ND : Below W5.heap.size W5 W5.drew := (Below.refl _ _).drew
 have S6 := S5.below ND
 have b16 := b25.below ND b25.lt
 have b96 := b5.below ND b5.lt
 have HSB : Hid (∀ u, u.cell? ⟨E, 140, none⟩ = some (.slice (some ⟨gT, 0, none⟩) e1.txs.length e1.cT) → Box u w.heap.size s.cells 36 → Box u w3.heap.size q.cells 36 → u.cell? ⟨E, 140, none⟩ = some (.slice (some ⟨gT, 0, none⟩) e1.txs.length e1.cT) ∧ u.rangeAt w.heap.size 0 s.cells ∧ u.rangeAt w3.heap.size 0 q.cells) := fun u h1 h2 h3 => ⟨h1, Box.range [] s.cells [] (by simpa using h2), Box.range [] q.cells [] (by simpa using h3)⟩
 have HTC : Hid (∀ u, EngAt u E e1 → u.cell? ⟨E, 140, none⟩ = some (.slice (some ⟨gT, 0, none⟩) e1.txs.length e1.cT) ∧ u.cell? ⟨gT, kT * 3 + 1, none⟩ = some (.int .i64 lst)) := fun u hu => ⟨by rw [← hgT]; exact EngA.cell_at hu.shape hu.box 4 _ rfl, by
  have h1 := hu.own.txs.1
  rw [hgT] at h1
  rw [h1.cellAt (kT * 3 + 1) (by omega), cellsL_at e1.txs kT 1 hkTl (by omega), ← hlst.out]
  rfl⟩
 have HIE : Hid ((Tryz.prog.info? 128).map (·.size) = some e1.cells.length) := by rw [Hid, EngA.cells_len S5.at'.shape]; exact Tryz.infoEng
 have hkTi : (kT : Int) < (e1.txs.length : Int) := by omega
 have hkT0 : (0 : Int) ≤ (kT : Int) := by omega
 have HFV : Hid (fetchV e.v (o / 4) = (e1.v, (k : Int))) := hf.out
 clear hf hlive
 refine wp_region_held_drew (S := fun w' => w'.cell? ⟨E, 140, none⟩ = some (.slice (some ⟨gT, 0, none⟩) e1.txs.length e1.cT) ∧ w'.rangeAt w.heap.size 0 s.cells ∧ w'.rangeAt w3.heap.size 0 q.cells) (by kernel_rfl) ?_ (fun hHeld => ?_)
 ·exact HSB.out _ (HTC.out _ S6.at').1 b16 b96
 refine tk 0 (v := .pointer (some ⟨E, 0, none⟩)) rfl (Or.inl ⟨by rfl, ?_⟩) hHeld ?_
 ·intro w' hSw
  go_simp <;> rfl
 try simp only [Act.put, zA, zB, zD, zE, zF]
 refine tk 1 (v := .int .i64 tx) rfl (Or.inl ⟨by rfl, ?_⟩) hHeld ?_
 ·intro w' hSw
  go_simp <;> rfl
 try simp only [Act.put, zA, zB, zC, zD, zE, zF]
 refine tk 2 (v := .pointer (some ⟨E, 0, none⟩)) rfl (Or.inl ⟨by rfl, ?_⟩) hHeld ?_
 ·intro w' hSw
  go_simp <;> rfl
 try simp only [Act.put, zA, zB, zC, zD, zE, zF]
 refine tk 3 (v := .pointer (some ⟨E, 0, none⟩)) rfl (Or.inl ⟨by rfl, ?_⟩) hHeld ?_
 ·intro w' hSw
  go_simp <;> rfl
 try simp only [Act.put, zA, zB, zC, zD, zE, zF]
 refine tk 4 (v := .pointer (some ⟨E, 140, none⟩)) rfl (Or.inl ⟨by rfl, ?_⟩) hHeld ?_
 ·intro w' hSw
  go_simp <;> rfl
 try simp only [Act.put, zA, zB, zC, zD, zE, zF]
 refine tk 5 (v := .slice (some ⟨gT, 0, none⟩) e1.txs.length e1.cT) rfl (Or.inl ⟨by rfl, ?_⟩) hHeld ?_
 ·intro w' hSw
  have hx := hSw.1
  go_simp <;> rfl
 try simp only [Act.put, zA, zB, zC, zD, zE, zF]
 refine tk 6 (v := .pointer (some ⟨E, 0, none⟩)) rfl (Or.inl ⟨by rfl, ?_⟩) hHeld ?_
 ·intro w' hSw
  go_simp <;> rfl
 try simp only [Act.put, zA, zB, zC, zD, zE, zF]
 refine tk 7 (v := .pointer (some ⟨E, 0, none⟩)) rfl (Or.inl ⟨by rfl, ?_⟩) hHeld ?_
 ·intro w' hSw
  go_simp <;> rfl
 try simp only [Act.put, zA, zB, zC, zD, zE, zF]
 refine tk 9 (v := .int .i64 tx) rfl (Or.inl ⟨by rfl, ?_⟩) hHeld ?_
 ·intro w' hSw
  go_simp <;> rfl
 try simp only [Act.put, zA, zB, zC, zD, zE, zF]
 refine tk 15 rfl (yieldsIf_load_mid (by rfl) _ _ rfl _ _ rfl q.cells _ (fun _ h => h.2.2) Tryz.underlying36 rfl (slot_info q)) hHeld ?_
 try simp only [Act.put, zA, zB, zC, zD, zE, zF]
 refine tk 16 rfl (yieldsIf_load_mid (by rfl) _ _ rfl _ _ rfl s.cells _ (fun _ h => h.2.1) Tryz.underlying36 rfl (slot_info s)) hHeld ?_
 try simp only [Act.put, zA, zB, zC, zD, zE, zF]
 refine tk 14 (v := .int .i64 o) rfl (Or.inl ⟨by rfl, ?_⟩) hHeld ?_
 ·intro w' hSw
  go_simp <;> rfl
 try simp only [Act.put, zA, zB, zC, zD, zE, zF]
 have C6 := l7Live_any e1 S6.at'.shape tx W5.drew S6.at'.own.txs.reads (by rw [HTX.out]; omega)
 rw [hkT] at C6
 have r6 : W5.drew.rangeAt E 0 e1.cells := Box.range [] e1.cells [] (by simpa using S6.at'.box)
 refine wpAnyH_ready (rs := [8]) (by kernel_rfl) (by simp) ?_
 refine AllReadyH.cons rfl (fun K hK => ?_) AllReadyH.nil
 rw [if_pos (by rfl)]
 refine wp_load_mid 128 (.tmp 36) rfl E 0 rfl e1.cells _ r6 Tryz.underlying128 rfl HIE.out ?_
 refine hK.out _ _ (hHeld) (fun hHeld => ?_)
 clear hK K
 try simp only [Act.put, zA, zB, zC, zD, zE, zF]
 refine wpAnyH_ready (rs := [10]) (by kernel_rfl) (by simp) ?_
 refine AllReadyH.cons rfl (fun K hK => ?_) AllReadyH.nil
 go_simp
 refine C6.mono ?_
 clear C6 r6
 rintro r w7 ⟨rfl, hb7⟩
 have S7 := S6.below hb7
 have b17 := b16.below hb7 b16.lt
 have b97 := b96.below hb7 b96.lt
 refine hK.out _ _ (HSB.out _ (HTC.out _ S7.at').1 b17 b97) (fun hHeld => ?_)
 clear hK K
 try simp only [Act.put, zA, zB, zC, zD, zE, zF]
 refine tk 11 (v := .pointer (some ⟨gT, kT * 3, none⟩)) rfl (Or.inl ⟨by rfl, ?_⟩) hHeld ?_
 ·intro w' hSw
  go_simp <;> rfl
 try simp only [Act.put, zA, zB, zC, zD, zE, zF]
 refine tk 12 (v := .pointer (some ⟨gT, kT * 3 + 1, none⟩)) rfl (Or.inl ⟨by rfl, ?_⟩) hHeld ?_
 ·intro w' hSw
  go_simp <;> rfl
 try simp only [Act.put, zA, zB, zC, zD, zE, zF]
 have hfs := hl s (by simp)
 have C7 := l3CopySlot_own s w7 (hr w7 S7.touch) hfs.1 hfs.2
 have hs57 : W5.heap.size ≤ w7.heap.size := hb7.size
 refine wpAnyH_ready (rs := [13, 17]) (by kernel_rfl) (by simp) ?_
 refine AllReadyH.cons rfl (fun K hK => ?_) (AllReadyH.cons rfl (fun K hK => ?_) AllReadyH.nil)
 ·have z7 := (HTC.out _ S7.at').2
  go_simp
  refine hK.out _ _ (hHeld) (fun hHeld => ?_)
  clear hK K
  try simp only [Act.put, zA, zB, zC, zD, zE, zF]
  clear z7
  refine wpAnyH_ready (rs := [17]) (by kernel_rfl) (by simp) ?_
  refine AllReadyH.cons rfl (fun K hK => ?_) AllReadyH.nil
  go_simp
  refine C7.mono ?_
  clear C7
  rintro r w8 ⟨x, rfl, hxv, ox, hb8⟩
  have S8 := S7.below hb8
  have a8 := S8.at'
  have b18 := b17.below hb8 b17.lt
  have b98 := b97.below hb8 b97.lt
  have hs78 := hb8.size
  have N58 : Below W5.heap.size W5 w8 := (ND.trans hb7).trans (hb8.mono hs57)
  have oq8 := SlotA.own_below oq5 N58
  have ox8 : x.own w8 w3.heap.size w8.heap.size := OwnO.widen ox (by omega) (Nat.le_refl _) (Nat.le_refl _)
  have hs38 : w3.heap.size ≤ w8.heap.size := by omega
  have hap := rec_apart oq8 ox8 (ownL_nil w8 w8.heap.size w8.heap.size (Nat.le_refl _)) hs38
  obtain ⟨rc, hrc⟩ : ∃ rc : RecA, Hid ((⟨0, tx, lst, 1, o, q, x, 0, [], none, 0⟩ : RecA) = rc) := ⟨_, rfl⟩
  have orc : rc.own w8 0 w8.heap.size := by
   rw [← hrc.out]
   exact ⟨OwnO.widen oq8 (Nat.zero_le _) hs38 (Nat.le_refl _), OwnO.widen ox8 (Nat.zero_le _) (Nat.le_refl _) (Nat.le_refl _), ownL_nil _ _ _ (Nat.le_refl _), hap⟩
  have HRB3 : Hid (∀ i ∈ rc.blocks, (w2.heap.size ≤ i ∧ i < w3.heap.size) ∨ w7.heap.size ≤ i) := fun i hi => by
   rw [← hrc.out] at hi
   simp only [RecA.blocks, List.mem_append] at hi
   rcases hi with hi | hi | hi
   ·exact .inl (SlotA.blocks_lt oq8 i hi)
   ·exact .inr (SlotA.blocks_lt ox i hi).1
   ·cases hi
  have HRB : Hid (∀ i ∈ rc.blocks, w2.heap.size ≤ i) := fun i hi => (HRB3.out i hi).elim (fun h1 => h1.1) (fun h1 => by omega)
  have hrcE : ∀ i ∈ rc.blocks, i ∉ e1.blocks := fun i hi hm => by have := HRB.out i hi; have := S1.at'.lt i hm; omega
  have hrcN : E ∉ rc.blocks := fun hi => by have := HRB.out E hi; have := S1.at'.box.lt; omega
  have hoff9 : Off E e1 w3.heap.size := S1.at'.new hs3
  have HRV : Hid (rc.v = recSV tx (e.v.txs.getD (liveOf e.v.txs tx).toNat zeroL).last o ((e1.v.seats.getD k zeroStV).ss.getD (o % 4) ⟨false, ⟨0, [], []⟩⟩) s.v) := by
   have h1 : liveOf e.v.txs tx = kT := by show liveOf e.txs tx = kT; rw [← HTX.out]; exact hkT
   rw [Hid, h1, Int.toNat_natCast, ← HBV.out, ← hxv.out, ← hqv.out, ← hrc.out, ← hlst.out, HTX.out]
   rfl
  clear oq8 ox8 hap N58
  refine hK.out _ _ (HSB.out _ (HTC.out _ S8.at').1 b18 b98) (fun hHeld => ?_)
  clear hK K
  try simp only [Act.put, zA, zB, zC, zD, zE, zF]
  refine tk 18 (v := .agg rc.cells.toArray) rfl (Or.inl ⟨by rfl, ?_⟩) hHeld ?_
  ·intro w' hSw
   have e9 := run_buildS w' tx lst o q x
   rw [hrc.out] at e9
   refine run_next ?_
   simp only [List.map_toArray, List.map_cons, List.map_nil]
   exact e9
  try simp only [Act.put, zA, zB, zC, zD, zE, zF]
  have C8 := l7Log_any E e1 rc w8 a8 orc hrcE hrcN (by rw [hl1.out]; exact hlen) (by rw [HTX.out]; omega)
  refine wpAnyH_ready (rs := [19]) (by kernel_rfl) (by simp) ?_
  refine AllReadyH.cons rfl (fun K hK => ?_) AllReadyH.nil
  go_simp
  refine C8.mono ?_
  clear C8
  rintro r w9 ⟨rfl, e9, he9, ha9, m9⟩
  have hB1 : w.heap.size ∉ rc.blocks := fun hh => by have := HRB.out _ hh; omega
  have hB9 : w3.heap.size ∉ rc.blocks := fun hh => (HRB3.out _ hh).elim (fun h1 => by omega) (fun h1 => by omega)
  have b19 := m9.boxes b18 hoff1 hB1
  have b99 := m9.boxes b98 hoff9 hB9
  have hoffB := m9.off b18.lt hoff1 hB1
  have S9 : EngStep E e w e9 w9 := EngMore.step S8 m9 (fun i hi => by have := HRB.out i hi; omega)
  have y9 : w9.cell? ⟨E, 140, none⟩ = some (.slice (some ⟨gT, 0, none⟩) e1.txs.length e1.cT) := by
   have h1 := EngA.cell_at m9.at'.shape m9.at'.box 4 _ rfl
   rw [ha9.out.1, ha9.out.2.1, hgT, show e9.txs.length = e1.txs.length from by rw [v_txs he9.out]; simp only [logV]; rw [lastV_len]; rfl] at h1
   exact h1
  refine hK.out _ _ (HSB.out _ y9 b19 b99) (fun hHeld => ?_)
  clear hK K
  try simp only [Act.put, zA, zB, zC, zD, zE, zF]
  refine tk 20 (v := .int .i64 ((e1.log.recs.length : Int) + 1)) rfl (Or.inl ⟨by rfl, ?_⟩) hHeld ?_
  ·intro w' hSw
   go_simp <;> rfl
  try simp only [Act.put, zA, zB, zC, zD, zE, zF]
  refine wpAnyH_done (by kernel_rfl) ?_ _
  clear hHeld y9 b99 hB1 hB9 ha9 m9 b18 b98 S8 a8 orc hrcE hrcN
  have hl9 : e9.log.recs.length = e.log.recs.length + 1 := by rw [v_recs_len he9.out]; simp [logV, EngA.v, LogA.v, hl1.out]
  have ht9 : e9.txs.length = e.txs.length := by rw [v_txs he9.out]; simp only [logV]; rw [lastV_len]; show e1.txs.length = _; rw [HTX.out]
  have hh9 : e9.holds = e.holds := by rw [v_holds he9.out]; exact HHX.out
  have hok9 : e9.v.poolOk := by rw [he9.out]; exact log_ok _ hok _
  obtain ⟨k9, hk9a, hk9b, _⟩ := fetch_seat e9.v hok9 (o / 4)
  have CA := l7Apply_any E e9 o s ((e1.log.recs.length : Int) + 1) w9 S9.at' hok9 h32 (fun u e' _ _ hu => hr u (S9.touch_trans hu)) hl ⟨k9, hk9a, hk9b⟩
  have r19 : w9.rangeAt w.heap.size 0 s.cells := Box.range [] s.cells [] (by simpa using b19)
  have HE9 : Hid (e9.v = logV e1.v rc.v) := he9.out
  have HL9 : Hid (e9.txs.length = e.txs.length ∧ e9.holds = e.holds) := ⟨ht9, hh9⟩
  clear he9 hl9 ht9 hh9 hok9 hk9a hk9b
  go_wp2_with (first | (guard_target = wpList _ _ _ (Oper.mk (some 51) _ _ _ _ _ :: _) _ _; refine wpList_load_mid rfl 36 (.tmp 7) rfl w.heap.size 0 rfl s.cells _ r19 Tryz.underlying36 rfl (slot_info s) ?_) | fail)
  refine CA.mono ?_
  clear CA r19
  rintro r w10 ⟨⟨v10, rfl⟩, e10, he10, _, s10⟩
  have S10 := S9.trans s10
  have a10 := S10.at'
  have hh10 : e10.holds = e.holds := by rw [v_holds he10.out, (apply_rest e9.v o s.v _).2.1]; exact HL9.out.2
  have CH := l7Holder_any e10 a10.shape o w10 a10.own.holds.reads (by rw [hh10]; omega)
  have r10 : w10.rangeAt E 0 e10.cells := Box.range [] e10.cells [] (by simpa using a10.box)
  have HIE : Hid ((Tryz.prog.info? 128).map (·.size) = some e10.cells.length) := by rw [Hid, EngA.cells_len a10.shape]; exact Tryz.infoEng
  have HV10 : Hid (setV e.v tx o s.v = if holdFrom o e10.v.holds = 0 then { e10.v with holds := e10.v.holds ++ [⟨tx, o⟩] } else e10.v) := by
   have h1 : applyV (logV (fetchV e.v (o / 4)).1 (recSV tx (e.v.txs.getD (liveOf e.v.txs tx).toNat zeroL).last o (((fetchV e.v (o / 4)).1.seats.getD (fetchV e.v (o / 4)).2.toNat zeroStV).ss.getD (o % 4) ⟨false, ⟨0, [], []⟩⟩) s.v)) o s.v ((e.v.log.recs.length : Int) + 1) = e10.v := by
    rw [he10.out, HE9.out, HFV.out, HRV.out]
    simp only [Int.toNat_natCast, EngA.v, LogA.v, List.length_map, hl1.out]
   rw [Hid]
   unfold setV
   simp only
   rw [h1]
  clear he10 HE9 HL9 s10 S9
  go_wp2_with (first | (guard_target = wpList _ _ _ (Oper.mk (some 56) _ _ _ _ _ :: _) _ _; refine wpList_load_mid rfl 128 (.tmp 55) rfl E 0 rfl e10.cells _ r10 Tryz.underlying128 rfl HIE.out ?_) | fail)
  refine CH.mono ?_
  clear CH r10 HIE
  rintro r w11 ⟨rfl, hb11⟩
  have S11 := S10.below hb11
  have hs11 := hb11.size
  by_cases hz : holdFrom o e10.holds = 0
  ·have hzb : (holdFrom o e10.holds == 0) = true := by simpa using hz
   have HVE : Hid (setV e.v tx o s.v = { e10.v with holds := e10.v.holds ++ [⟨tx, o⟩] }) := by rw [Hid, HV10.out, if_pos (show holdFrom o e10.v.holds = 0 from hz)]
   have a11 := S11.at'
   have x11 : w11.cell? ⟨E, 141, none⟩ = some (.slice e10.aH e10.holds.length e10.cH) := EngA.cell_at a11.shape a11.box 5 _ rfl
   have hA : Below w11.heap.size w11 (w11.alloc (.cells #[.int .i64 tx, .int .i64 (o : Int)] 178)) := (Below.refl _ _).alloc (Nat.le_refl _) _
   have hoA := a11.own.holds.below hA
   have hlh : e10.holds.length + 1 ≤ 68719476736 := by rw [hh10]; exact hH
   clear hz HV10 hh10
   go_wp2_with (first | (guard_target = wpList _ _ _ (Oper.mk (some 69) _ _ _ _ _ :: _) _ _; refine append_holdsF rfl _ _ rfl 0 w11.heap.size e10.aH e10.cH e10.holds rfl hoA _ _ [⟨tx, o⟩] rfl (readsH_one w11 ⟨tx, o⟩ _) (fun h => by cases h) (by simp; omega) (Nat.zero_le _) ?_; intro a3 c3 y3 w12 hy3 ho3 hg3 hf3; have HS12 := S11.holdsStep hA ho3 hg3 hf3; obtain ⟨W13, hW13, s13, m13, f13⟩ := HS12) | fail)
   rw [hW13.out]
   go_end0
   refine ⟨⟨_, rfl⟩, _, ?_, s13⟩
   rw [Hid, HVE.out]
   simp only [EngA.v, EngA.withHolds, hy3.out]
  ·have hzb : (holdFrom o e10.holds == 0) = false := by simpa using hz
   have HVE : Hid (e10.v = setV e.v tx o s.v) := by rw [Hid, HV10.out, if_neg (show ¬ holdFrom o e10.v.holds = 0 from hz)]
   clear hz HV10 hh10
   go_wp2
   go_end0
   exact ⟨⟨_, rfl⟩, e10, HVE, S11⟩
 ·go_simp
  refine C7.mono ?_
  clear C7
  rintro r w8 ⟨x, rfl, hxv, ox, hb8⟩
  have S8 := S7.below hb8
  have a8 := S8.at'
  have b18 := b17.below hb8 b17.lt
  have b98 := b97.below hb8 b97.lt
  have hs78 := hb8.size
  have N58 : Below W5.heap.size W5 w8 := (ND.trans hb7).trans (hb8.mono hs57)
  have oq8 := SlotA.own_below oq5 N58
  have ox8 : x.own w8 w3.heap.size w8.heap.size := OwnO.widen ox (by omega) (Nat.le_refl _) (Nat.le_refl _)
  have hs38 : w3.heap.size ≤ w8.heap.size := by omega
  have hap := rec_apart oq8 ox8 (ownL_nil w8 w8.heap.size w8.heap.size (Nat.le_refl _)) hs38
  obtain ⟨rc, hrc⟩ : ∃ rc : RecA, Hid ((⟨0, tx, lst, 1, o, q, x, 0, [], none, 0⟩ : RecA) = rc) := ⟨_, rfl⟩
  have orc : rc.own w8 0 w8.heap.size := by
   rw [← hrc.out]
   exact ⟨OwnO.widen oq8 (Nat.zero_le _) hs38 (Nat.le_refl _), OwnO.widen ox8 (Nat.zero_le _) (Nat.le_refl _) (Nat.le_refl _), ownL_nil _ _ _ (Nat.le_refl _), hap⟩
  have HRB3 : Hid (∀ i ∈ rc.blocks, (w2.heap.size ≤ i ∧ i < w3.heap.size) ∨ w7.heap.size ≤ i) := fun i hi => by
   rw [← hrc.out] at hi
   simp only [RecA.blocks, List.mem_append] at hi
   rcases hi with hi | hi | hi
   ·exact .inl (SlotA.blocks_lt oq8 i hi)
   ·exact .inr (SlotA.blocks_lt ox i hi).1
   ·cases hi
  have HRB : Hid (∀ i ∈ rc.blocks, w2.heap.size ≤ i) := fun i hi => (HRB3.out i hi).elim (fun h1 => h1.1) (fun h1 => by omega)
  have hrcE : ∀ i ∈ rc.blocks, i ∉ e1.blocks := fun i hi hm => by have := HRB.out i hi; have := S1.at'.lt i hm; omega
  have hrcN : E ∉ rc.blocks := fun hi => by have := HRB.out E hi; have := S1.at'.box.lt; omega
  have hoff9 : Off E e1 w3.heap.size := S1.at'.new hs3
  have HRV : Hid (rc.v = recSV tx (e.v.txs.getD (liveOf e.v.txs tx).toNat zeroL).last o ((e1.v.seats.getD k zeroStV).ss.getD (o % 4) ⟨false, ⟨0, [], []⟩⟩) s.v) := by
   have h1 : liveOf e.v.txs tx = kT := by show liveOf e.txs tx = kT; rw [← HTX.out]; exact hkT
   rw [Hid, h1, Int.toNat_natCast, ← HBV.out, ← hxv.out, ← hqv.out, ← hrc.out, ← hlst.out, HTX.out]
   rfl
  clear oq8 ox8 hap N58
  refine hK.out _ _ (HSB.out _ (HTC.out _ S8.at').1 b18 b98) (fun hHeld => ?_)
  clear hK K
  try simp only [Act.put, zA, zB, zC, zD, zE, zF]
  have z8 := (HTC.out _ S8.at').2
  refine wpAnyH_ready (rs := [13]) (by kernel_rfl) (by simp) ?_
  refine AllReadyH.cons rfl (fun K hK => ?_) AllReadyH.nil
  go_simp
  refine hK.out _ _ (hHeld) (fun hHeld => ?_)
  clear hK K
  try simp only [Act.put, zA, zB, zC, zD, zE, zF]
  clear z8
  refine tk 18 (v := .agg rc.cells.toArray) rfl (Or.inl ⟨by rfl, ?_⟩) hHeld ?_
  ·intro w' hSw
   have e9 := run_buildS w' tx lst o q x
   rw [hrc.out] at e9
   refine run_next ?_
   simp only [List.map_toArray, List.map_cons, List.map_nil]
   exact e9
  try simp only [Act.put, zA, zB, zC, zD, zE, zF]
  have C8 := l7Log_any E e1 rc w8 a8 orc hrcE hrcN (by rw [hl1.out]; exact hlen) (by rw [HTX.out]; omega)
  refine wpAnyH_ready (rs := [19]) (by kernel_rfl) (by simp) ?_
  refine AllReadyH.cons rfl (fun K hK => ?_) AllReadyH.nil
  go_simp
  refine C8.mono ?_
  clear C8
  rintro r w9 ⟨rfl, e9, he9, ha9, m9⟩
  have hB1 : w.heap.size ∉ rc.blocks := fun hh => by have := HRB.out _ hh; omega
  have hB9 : w3.heap.size ∉ rc.blocks := fun hh => (HRB3.out _ hh).elim (fun h1 => by omega) (fun h1 => by omega)
  have b19 := m9.boxes b18 hoff1 hB1
  have b99 := m9.boxes b98 hoff9 hB9
  have hoffB := m9.off b18.lt hoff1 hB1
  have S9 : EngStep E e w e9 w9 := EngMore.step S8 m9 (fun i hi => by have := HRB.out i hi; omega)
  have y9 : w9.cell? ⟨E, 140, none⟩ = some (.slice (some ⟨gT, 0, none⟩) e1.txs.length e1.cT) := by
   have h1 := EngA.cell_at m9.at'.shape m9.at'.box 4 _ rfl
   rw [ha9.out.1, ha9.out.2.1, hgT, show e9.txs.length = e1.txs.length from by rw [v_txs he9.out]; simp only [logV]; rw [lastV_len]; rfl] at h1
   exact h1
  refine hK.out _ _ (HSB.out _ y9 b19 b99) (fun hHeld => ?_)
  clear hK K
  try simp only [Act.put, zA, zB, zC, zD, zE, zF]
  refine tk 20 (v := .int .i64 ((e1.log.recs.length : Int) + 1)) rfl (Or.inl ⟨by rfl, ?_⟩) hHeld ?_
  ·intro w' hSw
   go_simp <;> rfl
  try simp only [Act.put, zA, zB, zC, zD, zE, zF]
  refine wpAnyH_done (by kernel_rfl) ?_ _
  clear hHeld y9 b99 hB1 hB9 ha9 m9 b18 b98 S8 a8 orc hrcE hrcN
  have hl9 : e9.log.recs.length = e.log.recs.length + 1 := by rw [v_recs_len he9.out]; simp [logV, EngA.v, LogA.v, hl1.out]
  have ht9 : e9.txs.length = e.txs.length := by rw [v_txs he9.out]; simp only [logV]; rw [lastV_len]; show e1.txs.length = _; rw [HTX.out]
  have hh9 : e9.holds = e.holds := by rw [v_holds he9.out]; exact HHX.out
  have hok9 : e9.v.poolOk := by rw [he9.out]; exact log_ok _ hok _
  obtain ⟨k9, hk9a, hk9b, _⟩ := fetch_seat e9.v hok9 (o / 4)
  have CA := l7Apply_any E e9 o s ((e1.log.recs.length : Int) + 1) w9 S9.at' hok9 h32 (fun u e' _ _ hu => hr u (S9.touch_trans hu)) hl ⟨k9, hk9a, hk9b⟩
  have r19 : w9.rangeAt w.heap.size 0 s.cells := Box.range [] s.cells [] (by simpa using b19)
  have HE9 : Hid (e9.v = logV e1.v rc.v) := he9.out
  have HL9 : Hid (e9.txs.length = e.txs.length ∧ e9.holds = e.holds) := ⟨ht9, hh9⟩
  clear he9 hl9 ht9 hh9 hok9 hk9a hk9b
  go_wp2_with (first | (guard_target = wpList _ _ _ (Oper.mk (some 51) _ _ _ _ _ :: _) _ _; refine wpList_load_mid rfl 36 (.tmp 7) rfl w.heap.size 0 rfl s.cells _ r19 Tryz.underlying36 rfl (slot_info s) ?_) | fail)
  refine CA.mono ?_
  clear CA r19
  rintro r w10 ⟨⟨v10, rfl⟩, e10, he10, _, s10⟩
  have S10 := S9.trans s10
  have a10 := S10.at'
  have hh10 : e10.holds = e.holds := by rw [v_holds he10.out, (apply_rest e9.v o s.v _).2.1]; exact HL9.out.2
  have CH := l7Holder_any e10 a10.shape o w10 a10.own.holds.reads (by rw [hh10]; omega)
  have r10 : w10.rangeAt E 0 e10.cells := Box.range [] e10.cells [] (by simpa using a10.box)
  have HIE : Hid ((Tryz.prog.info? 128).map (·.size) = some e10.cells.length) := by rw [Hid, EngA.cells_len a10.shape]; exact Tryz.infoEng
  have HV10 : Hid (setV e.v tx o s.v = if holdFrom o e10.v.holds = 0 then { e10.v with holds := e10.v.holds ++ [⟨tx, o⟩] } else e10.v) := by
   have h1 : applyV (logV (fetchV e.v (o / 4)).1 (recSV tx (e.v.txs.getD (liveOf e.v.txs tx).toNat zeroL).last o (((fetchV e.v (o / 4)).1.seats.getD (fetchV e.v (o / 4)).2.toNat zeroStV).ss.getD (o % 4) ⟨false, ⟨0, [], []⟩⟩) s.v)) o s.v ((e.v.log.recs.length : Int) + 1) = e10.v := by
    rw [he10.out, HE9.out, HFV.out, HRV.out]
    simp only [Int.toNat_natCast, EngA.v, LogA.v, List.length_map, hl1.out]
   rw [Hid]
   unfold setV
   simp only
   rw [h1]
  clear he10 HE9 HL9 s10 S9
  go_wp2_with (first | (guard_target = wpList _ _ _ (Oper.mk (some 56) _ _ _ _ _ :: _) _ _; refine wpList_load_mid rfl 128 (.tmp 55) rfl E 0 rfl e10.cells _ r10 Tryz.underlying128 rfl HIE.out ?_) | fail)
  refine CH.mono ?_
  clear CH r10 HIE
  rintro r w11 ⟨rfl, hb11⟩
  have S11 := S10.below hb11
  have hs11 := hb11.size
  by_cases hz : holdFrom o e10.holds = 0
  ·have hzb : (holdFrom o e10.holds == 0) = true := by simpa using hz
   have HVE : Hid (setV e.v tx o s.v = { e10.v with holds := e10.v.holds ++ [⟨tx, o⟩] }) := by rw [Hid, HV10.out, if_pos (show holdFrom o e10.v.holds = 0 from hz)]
   have a11 := S11.at'
   have x11 : w11.cell? ⟨E, 141, none⟩ = some (.slice e10.aH e10.holds.length e10.cH) := EngA.cell_at a11.shape a11.box 5 _ rfl
   have hA : Below w11.heap.size w11 (w11.alloc (.cells #[.int .i64 tx, .int .i64 (o : Int)] 178)) := (Below.refl _ _).alloc (Nat.le_refl _) _
   have hoA := a11.own.holds.below hA
   have hlh : e10.holds.length + 1 ≤ 68719476736 := by rw [hh10]; exact hH
   clear hz HV10 hh10
   go_wp2_with (first | (guard_target = wpList _ _ _ (Oper.mk (some 69) _ _ _ _ _ :: _) _ _; refine append_holdsF rfl _ _ rfl 0 w11.heap.size e10.aH e10.cH e10.holds rfl hoA _ _ [⟨tx, o⟩] rfl (readsH_one w11 ⟨tx, o⟩ _) (fun h => by cases h) (by simp; omega) (Nat.zero_le _) ?_; intro a3 c3 y3 w12 hy3 ho3 hg3 hf3; have HS12 := S11.holdsStep hA ho3 hg3 hf3; obtain ⟨W13, hW13, s13, m13, f13⟩ := HS12) | fail)
   rw [hW13.out]
   go_end0
   refine ⟨⟨_, rfl⟩, _, ?_, s13⟩
   rw [Hid, HVE.out]
   simp only [EngA.v, EngA.withHolds, hy3.out]
  ·have hzb : (holdFrom o e10.holds == 0) = false := by simpa using hz
   have HVE : Hid (e10.v = setV e.v tx o s.v) := by rw [Hid, HV10.out, if_neg (show ¬ holdFrom o e10.v.holds = 0 from hz)]
   clear hz HV10 hh10
   go_wp2
   go_end0
   exact ⟨⟨_, rfl⟩, e10, HVE, S11⟩
end Go.Proofs.YtoboickdkednkaaGreatDoor
namespace Go.Proofs.YtoboickdkednkaaGreatDoor
open Go.RowKit
theorem specUndoOf_any (r : RecA) (n p : Int) (w : World) (hr : r.reads w) (hl : r.short 1099511627776) :
  Calls Tryz.prog 129 #[.agg r.cells.toArray, .int .i64 n, .int .i64 p] w fun e w' => ∃ t : RecA, e = .returned (.agg t.cells.toArray) ∧ Hid (t.v = undoV r.v n p) ∧ t.own w' w.heap.size w'.heap.size ∧ Below w.heap.size w w' := by
 obtain ⟨W, hW, b0, b1, hbW, hsW⟩ := boxes2 w r.cells zeroR.cells 39 39
 have HX : Hid (∀ u, Below W.heap.size W u → Box u w.heap.size r.cells 39) := fun u hu => b0.below hu b0.lt
 have HX1 : Hid (∀ u, Below W.heap.size W u → Box u (w.heap.size + 1) zeroR.cells 39) := fun u hu => b1.below hu b1.lt
 have HU1 : Hid (okR r.v = false → undoV r.v n p = noR) := fun h => undoV_bad h
 have HU4 : Hid (¬ r.kind = 1 → undoV r.v n p = noR) := fun h => undoV_kind (r := r.v) h
 have HU2 : Hid (okR (backV r.v n p) = false → undoV r.v n p = noR) := fun h => undoV_no h
 have HU3 : Hid (okR r.v = true → r.kind = 1 → okR (backV r.v n p) = true → undoV r.v n p = backV r.v n p) := fun h0 h1 h2 => undoV_yes h0 h1 h2
 generalize undoV r.v n p = R at *
 have C1 := specRecOk_any r W (hr.below hbW) hl
 have HS : Hid (∀ w', Box w' w.heap.size r.cells 39 → w'.cell? ⟨w.heap.size, 1, none⟩ = some (.int .i64 r.tx) ∧ w'.cell? ⟨w.heap.size, 2, none⟩ = some (.int .i64 r.prev) ∧ w'.cell? ⟨w.heap.size, 4, none⟩ = some (.int .i64 r.oid) ∧ w'.cell? ⟨w.heap.size, 5, none⟩ = some (.bool r.bf.v.has) ∧ w'.cell? ⟨w.heap.size, 6, none⟩ = some (.int .i64 r.bf.v.o.kind) ∧ w'.cell? ⟨w.heap.size, 7, none⟩ = some (.slice r.bf.aI r.bf.v.o.ints.length r.bf.cI) ∧ w'.cell? ⟨w.heap.size, 8, none⟩ = some (.slice r.bf.aR r.bf.v.o.refs.length r.bf.cR)) := fun w' b => ⟨b.cell 1 _ rfl, b.cell 2 _ rfl, b.cell 4 _ rfl, b.cell 5 _ rfl, b.cell 6 _ rfl, b.cell 7 _ rfl, b.cell 8 _ rfl⟩
 have HK : Hid (∀ w', Box w' w.heap.size r.cells 39 → w'.cell? ⟨w.heap.size, 3, none⟩ = some (.int .i64 r.kind)) := fun w' b => b.cell 3 _ rfl
 have HRG : Hid (∀ w', Box w' w.heap.size r.cells 39 → w'.rangeAt w.heap.size 0 r.cells) := fun w' b => Box.range [] r.cells [] (by simpa using b)
 have hlt := b1.lt
 clear b0 b1 hsW
 simp only [show zeroR.cells = [.int .i64 0, .int .i64 0, .int .i64 0, .int .i64 0, .int .i64 0, .bool false, .int .i64 0, .slice none 0 0, .slice none 0 0, .bool false, .int .i64 0, .slice none 0 0, .slice none 0 0, .int .i64 0, .slice none 0 0] from rfl] at hW
 go_enter Tryz.func129, Tryz.ntmps129
 go_wp2_with (first | (guard_target = wpList _ _ _ (Oper.mk (some 8) _ _ _ _ _ :: _) _ _; refine wpList_load_mid rfl 39 (.tmp 3) rfl w.heap.size 0 rfl r.cells _ (by rw [hW.out]; exact HRG.out _ (HX.out _ (Below.refl _ _))) Tryz.underlying39 rfl (rec_info _) ?_) | fail)
 rw [hW.out]
 clear hW
 refine C1.mono ?_
 clear C1
 rintro e w1 ⟨rfl, hb1⟩
 have B1 : Below w.heap.size w w1 := hbW.trans (hb1.mono hbW.size)
 have hs1 := hb1.size
 cases hok : okR r.v with
 | false =>
  have HR : Hid (zeroR.v = R) := (HU1.out hok).symm
  obtain ⟨WF, hWF, hwF, hsF, HTF, HLF, _⟩ := rec_out zeroR _ rfl (HX1.out _ hb1)
  have HE : Hid (zeroR.own WF w.heap.size WF.heap.size ∧ Below w.heap.size w WF) := ⟨own_zeroR _ _ _ (Nat.le_refl _), B1.trans (hwF.below (by omega) (by omega))⟩
  clear hwF hsF HU1 HU2 HU3 HU4 hok
  go_wp2_with (first | (guard_target = wpList _ _ _ (Oper.mk none (Op.store _ (Operand.tmp 6) _) _ _ _ _ :: _) _ _; refine wpList_store_mid rfl 39 (.tmp 6) (.tmp 16) rfl (w.heap.size + 1) 0 zeroR.cells.toArray rfl rfl HTF.out (by rw [List.size_toArray]; exact rec_info _) (rec_one _) ?_) | fail)
  rw [hWF.out]
  exact bodyPost_ret (v := .agg zeroR.cells.toArray) (results_one Tryz.results129 rfl HLF.out) rfl ⟨zeroR, rfl, HR, HE.out.1, HE.out.2⟩
 | true =>
 have k3 := HK.out _ (HX.out _ hb1)
 cases hk : (r.kind == 1) with
 | false =>
  have HR : Hid (zeroR.v = R) := (HU4.out (by simpa using hk)).symm
  obtain ⟨WF, hWF, hwF, hsF, HTF, HLF, _⟩ := rec_out zeroR _ rfl (HX1.out _ hb1)
  have HE : Hid (zeroR.own WF w.heap.size WF.heap.size ∧ Below w.heap.size w WF) := ⟨own_zeroR _ _ _ (Nat.le_refl _), B1.trans (hwF.below (by omega) (by omega))⟩
  clear hwF hsF HU1 HU2 HU3 HU4 hok
  go_wp2_with (first | (guard_target = wpList _ _ _ (Oper.mk none (Op.store _ (Operand.tmp 6) _) _ _ _ _ :: _) _ _; refine wpList_store_mid rfl 39 (.tmp 6) (.tmp 16) rfl (w.heap.size + 1) 0 zeroR.cells.toArray rfl rfl HTF.out (by rw [List.size_toArray]; exact rec_info _) (rec_one _) ?_) | fail)
  rw [hWF.out]
  exact bodyPost_ret (v := .agg zeroR.cells.toArray) (results_one Tryz.results129 rfl HLF.out) rfl ⟨zeroR, rfl, HR, HE.out.1, HE.out.2⟩
 | true =>
 have HU5 : Hid (okR (backV r.v n p) = true → R = backV r.v n p) := fun h => HU3.out hok (by simpa using hk) h
 clear HU1 HU3 HU4 hok
 go_upto_region 3 with fail
 go_cut [7] from 8 (fun x wx => ∃ (Bx : Nat) (t : SlotA), x = .pointer (some ⟨Bx, 0, none⟩) ∧ Hid (t.v = r.bf.v) ∧ Box wx Bx (backA n r.tx p r.oid t r.prev).cells 39 ∧ t.own wx w1.heap.size wx.heap.size ∧ Below w1.heap.size w1 wx)
 case first =>
  clear HU2 HU5 k3 hk
  have hrb := ReadsO.below hr.bf B1
  refine wp_region_held_drew (S := fun w' => w'.cell? ⟨w.heap.size, 1, none⟩ = some (.int .i64 r.tx) ∧ w'.cell? ⟨w.heap.size, 2, none⟩ = some (.int .i64 r.prev) ∧ w'.cell? ⟨w.heap.size, 4, none⟩ = some (.int .i64 r.oid) ∧ w'.cell? ⟨w.heap.size, 5, none⟩ = some (.bool r.bf.v.has) ∧ w'.cell? ⟨w.heap.size, 6, none⟩ = some (.int .i64 r.bf.v.o.kind) ∧ w'.cell? ⟨w.heap.size, 7, none⟩ = some (.slice r.bf.aI r.bf.v.o.ints.length r.bf.cI) ∧ w'.cell? ⟨w.heap.size, 8, none⟩ = some (.slice r.bf.aR r.bf.v.o.refs.length r.bf.cR)) (by kernel_rfl) (HS.out _ (HX.out _ hb1.drew)) (fun hHeld => ?_)
  refine tk 0 (v := .int .i64 n) rfl (Or.inl ⟨by rfl, ?_⟩) hHeld ?_
  ·intro w' hSw
   go_simp <;> rfl
  try simp only [Act.put, zA, zB, zD, zE, zF]
  refine tk 1 (v := .pointer (some ⟨w.heap.size, 1, none⟩)) rfl (Or.inl ⟨by rfl, ?_⟩) hHeld ?_
  ·intro w' hSw
   go_simp <;> rfl
  try simp only [Act.put, zA, zB, zC, zD, zE, zF]
  refine tk 2 (v := .int .i64 r.tx) rfl (Or.inl ⟨by rfl, ?_⟩) hHeld ?_
  ·intro w' hSw
   go_simp <;> rfl
  try simp only [Act.put, zA, zB, zC, zD, zE, zF]
  refine tk 3 (v := .int .i64 p) rfl (Or.inl ⟨by rfl, ?_⟩) hHeld ?_
  ·intro w' hSw
   go_simp <;> rfl
  try simp only [Act.put, zA, zB, zC, zD, zE, zF]
  refine tk 4 (v := .pointer (some ⟨w.heap.size, 4, none⟩)) rfl (Or.inl ⟨by rfl, ?_⟩) hHeld ?_
  ·intro w' hSw
   go_simp <;> rfl
  try simp only [Act.put, zA, zB, zC, zD, zE, zF]
  refine tk 5 (v := .int .i64 r.oid) rfl (Or.inl ⟨by rfl, ?_⟩) hHeld ?_
  ·intro w' hSw
   go_simp <;> rfl
  try simp only [Act.put, zA, zB, zC, zD, zE, zF]
  refine tk 6 (v := .pointer (some ⟨w.heap.size, 5, none⟩)) rfl (Or.inl ⟨by rfl, ?_⟩) hHeld ?_
  ·intro w' hSw
   go_simp <;> rfl
  try simp only [Act.put, zA, zB, zC, zD, zE, zF]
  refine tk 7 (v := .agg #[.bool r.bf.v.has, .int .i64 r.bf.v.o.kind, .slice r.bf.aI r.bf.v.o.ints.length r.bf.cI, .slice r.bf.aR r.bf.v.o.refs.length r.bf.cR]) rfl (Or.inl ⟨by rfl, ?_⟩) hHeld ?_
  ·intro w' hSw
   go_simp <;> rfl
  try simp only [Act.put, zA, zB, zC, zD, zE, zF]
  refine tk 9 (v := .pointer (some ⟨w.heap.size, 2, none⟩)) rfl (Or.inl ⟨by rfl, ?_⟩) hHeld ?_
  ·intro w' hSw
   go_simp <;> rfl
  try simp only [Act.put, zA, zB, zC, zD, zE, zF]
  refine tk 10 (v := .int .i64 r.prev) rfl (Or.inl ⟨by rfl, ?_⟩) hHeld ?_
  ·intro w' hSw
   go_simp <;> rfl
  try simp only [Act.put, zA, zB, zC, zD, zE, zF]
  refine wpAnyH_ready (rs := [8, 12]) (by kernel_rfl) (by simp) ?_
  refine AllReadyH.cons rfl (fun K hK => ?_) (AllReadyH.cons rfl (fun K hK => ?_) AllReadyH.nil)
  ·go_simp
   refine (l3CopySlot_own r.bf _ (ReadsO.below hrb (Below.refl _ _).drew) hl.bf.1 hl.bf.2).mono ?_
   rintro e u1 ⟨t, rfl, hv, ho, hbu⟩
   have hB0 : Below w1.heap.size w1 u1 := (Below.refl _ _).drew.trans hbu
   have hsu := hB0.size
   refine hK.out _ _ (HS.out _ (HX.out _ (hb1.trans (hB0.mono hb1.size)))) (fun hHeld => ?_)
   clear hK K
   try simp only [Act.put, zA, zB, zC, zD, zE, zF]
   refine tk 11 (v := .agg (backA n r.tx p r.oid t r.prev).cells.toArray) rfl (Or.inl ⟨by rfl, ?_⟩) hHeld ?_
   ·intro w' hSw
    go_simp <;> rfl
   try simp only [Act.put, zA, zB, zC, zD, zE, zF]
   refine wpAnyH_ready (rs := [12]) (by kernel_rfl) (by simp) ?_
   refine AllReadyH.cons rfl (fun K hK => ?_) AllReadyH.nil
   go_simp
   have hB1 : Below w1.heap.size w1 (u1.alloc (.cells #[.int .i64 0, .int .i64 0, .int .i64 0, .int .i64 0, .int .i64 0, .bool false, .int .i64 0, .slice none 0 0, .slice none 0 0, .bool false, .int .i64 0, .slice none 0 0, .slice none 0 0, .int .i64 0, .slice none 0 0] 39)) := hB0.alloc hB0.size _
   refine hK.out _ _ (HS.out _ (HX.out _ (hb1.trans (hB1.mono hb1.size)))) (fun hHeld => ?_)
   clear hK K
   try simp only [Act.put, zA, zB, zC, zD, zE, zF]
   have bN : Box (u1.alloc (.cells #[.int .i64 0, .int .i64 0, .int .i64 0, .int .i64 0, .int .i64 0, .bool false, .int .i64 0, .slice none 0 0, .slice none 0 0, .bool false, .int .i64 0, .slice none 0 0, .slice none 0 0, .int .i64 0, .slice none 0 0] 39)) u1.heap.size [.int .i64 0, .int .i64 0, .int .i64 0, .int .i64 0, .int .i64 0, .bool false, .int .i64 0, .slice none 0 0, .slice none 0 0, .bool false, .int .i64 0, .slice none 0 0, .slice none 0 0, .int .i64 0, .slice none 0 0] 39 := box_new _ _ _
   have ho := OwnO.below ho ((Below.refl u1.heap.size u1).alloc (Nat.le_refl _) (.cells #[.int .i64 0, .int .i64 0, .int .i64 0, .int .i64 0, .int .i64 0, .bool false, .int .i64 0, .slice none 0 0, .slice none 0 0, .bool false, .int .i64 0, .slice none 0 0, .slice none 0 0, .int .i64 0, .slice none 0 0] 39))
   have hsN := bN.lt
   obtain ⟨WF, hWF, hwF, hsF, HTF, _, bF⟩ := rec_out (backA n r.tx p r.oid t r.prev) [.int .i64 0, .int .i64 0, .int .i64 0, .int .i64 0, .int .i64 0, .bool false, .int .i64 0, .slice none 0 0, .slice none 0 0, .bool false, .int .i64 0, .slice none 0 0, .slice none 0 0, .int .i64 0, .slice none 0 0] rfl bN
   have hSF : WF.cell? ⟨w.heap.size, 1, none⟩ = some (.int .i64 r.tx) ∧ WF.cell? ⟨w.heap.size, 2, none⟩ = some (.int .i64 r.prev) ∧ WF.cell? ⟨w.heap.size, 4, none⟩ = some (.int .i64 r.oid) ∧ WF.cell? ⟨w.heap.size, 5, none⟩ = some (.bool r.bf.v.has) ∧ WF.cell? ⟨w.heap.size, 6, none⟩ = some (.int .i64 r.bf.v.o.kind) ∧ WF.cell? ⟨w.heap.size, 7, none⟩ = some (.slice r.bf.aI r.bf.v.o.ints.length r.bf.cI) ∧ WF.cell? ⟨w.heap.size, 8, none⟩ = some (.slice r.bf.aR r.bf.v.o.refs.length r.bf.cR) := HS.out _ (HX.out _ ((hb1.trans (hB1.mono hb1.size)).trans (hwF.below (by have := hb1.size; omega) (by have := hb1.size; omega))))
   refine wpAnyH_ready (rs := [13]) (by kernel_rfl) (by simp) ?_
   refine AllReadyH.cons rfl (fun K hK => ?_) AllReadyH.nil
   rw [if_pos (by rfl)]
   refine wp_store_mid 39 (.tmp 7) (.tmp 28) rfl (u1.heap.size) 0 (backA n r.tx p r.oid t r.prev).cells.toArray rfl rfl HTF.out (by rw [List.size_toArray]; exact rec_info _) (rec_one _) ?_
   have HW : Hid ((u1.alloc (.cells #[.int .i64 0, .int .i64 0, .int .i64 0, .int .i64 0, .int .i64 0, .bool false, .int .i64 0, .slice none 0 0, .slice none 0 0, .bool false, .int .i64 0, .slice none 0 0, .slice none 0 0, .int .i64 0, .slice none 0 0] 39)).setCells (u1.heap.size) 0 (backA n r.tx p r.oid t r.prev).cells.toArray.toList = WF) := hWF.out
   rw [HW.out]
   refine hK.out _ _ hSF (fun hHeld => ?_)
   refine wpAnyH_done (by kernel_rfl) ?_ _
   have hRel : Hid (Below w1.heap.size w1 WF ∧ t.own WF w1.heap.size WF.heap.size) := ⟨hB1.trans (hwF.below (by omega) (by omega)), OwnO.widen (OwnO.within ho hwF (by omega)) (by first | omega | exact Nat.le_refl _) (by omega) (Nat.le_refl _)⟩
   clear hHeld hK K HW hWF hwF HTF hSF
   go_wp2_with fail
   go_meet
   case rel => exact ⟨u1.heap.size, t, rfl, hv, bF, hRel.out.2, hRel.out.1⟩
  ·go_simp
   have hB0 : Below w1.heap.size w1 (w1.drew.alloc (.cells #[.int .i64 0, .int .i64 0, .int .i64 0, .int .i64 0, .int .i64 0, .bool false, .int .i64 0, .slice none 0 0, .slice none 0 0, .bool false, .int .i64 0, .slice none 0 0, .slice none 0 0, .int .i64 0, .slice none 0 0] 39)) := (Below.refl _ _).drew.alloc (Nat.le_refl _) _
   refine hK.out _ _ (HS.out _ (HX.out _ (hb1.trans (hB0.mono hb1.size)))) (fun hHeld => ?_)
   clear hK K
   try simp only [Act.put, zA, zB, zC, zD, zE, zF]
   refine wpAnyH_ready (rs := [8]) (by kernel_rfl) (by simp) ?_
   refine AllReadyH.cons rfl (fun K hK => ?_) AllReadyH.nil
   go_simp
   refine (l3CopySlot_own r.bf _ (ReadsO.below hrb hB0) hl.bf.1 hl.bf.2).mono ?_
   have bN0 : Box (w1.drew.alloc (.cells #[.int .i64 0, .int .i64 0, .int .i64 0, .int .i64 0, .int .i64 0, .bool false, .int .i64 0, .slice none 0 0, .slice none 0 0, .bool false, .int .i64 0, .slice none 0 0, .slice none 0 0, .int .i64 0, .slice none 0 0] 39)) w1.drew.heap.size [.int .i64 0, .int .i64 0, .int .i64 0, .int .i64 0, .int .i64 0, .bool false, .int .i64 0, .slice none 0 0, .slice none 0 0, .bool false, .int .i64 0, .slice none 0 0, .slice none 0 0, .int .i64 0, .slice none 0 0] 39 := box_new _ _ _
   generalize hAW : w1.drew.alloc (.cells #[.int .i64 0, .int .i64 0, .int .i64 0, .int .i64 0, .int .i64 0, .bool false, .int .i64 0, .slice none 0 0, .slice none 0 0, .bool false, .int .i64 0, .slice none 0 0, .slice none 0 0, .int .i64 0, .slice none 0 0] 39) = AW at *
   have bN1 : Box AW w1.heap.size [.int .i64 0, .int .i64 0, .int .i64 0, .int .i64 0, .int .i64 0, .bool false, .int .i64 0, .slice none 0 0, .slice none 0 0, .bool false, .int .i64 0, .slice none 0 0, .slice none 0 0, .int .i64 0, .slice none 0 0] 39 := bN0
   clear bN0 hAW
   rintro e u1 ⟨t, rfl, hv, ho, hbu⟩
   have hB1 : Below w1.heap.size w1 u1 := hB0.trans (hbu.mono hB0.size)
   have hsu := hB1.size
   have bN := bN1.below hbu bN1.lt
   have hsN := bN1.lt
   refine hK.out _ _ (HS.out _ (HX.out _ (hb1.trans (hB1.mono hb1.size)))) (fun hHeld => ?_)
   clear hK K
   try simp only [Act.put, zA, zB, zC, zD, zE, zF]
   refine tk 11 (v := .agg (backA n r.tx p r.oid t r.prev).cells.toArray) rfl (Or.inl ⟨by rfl, ?_⟩) hHeld ?_
   ·intro w' hSw
    go_simp <;> rfl
   try simp only [Act.put, zA, zB, zC, zD, zE, zF]
   obtain ⟨WF, hWF, hwF, hsF, HTF, _, bF⟩ := rec_out (backA n r.tx p r.oid t r.prev) [.int .i64 0, .int .i64 0, .int .i64 0, .int .i64 0, .int .i64 0, .bool false, .int .i64 0, .slice none 0 0, .slice none 0 0, .bool false, .int .i64 0, .slice none 0 0, .slice none 0 0, .int .i64 0, .slice none 0 0] rfl bN
   have hSF : WF.cell? ⟨w.heap.size, 1, none⟩ = some (.int .i64 r.tx) ∧ WF.cell? ⟨w.heap.size, 2, none⟩ = some (.int .i64 r.prev) ∧ WF.cell? ⟨w.heap.size, 4, none⟩ = some (.int .i64 r.oid) ∧ WF.cell? ⟨w.heap.size, 5, none⟩ = some (.bool r.bf.v.has) ∧ WF.cell? ⟨w.heap.size, 6, none⟩ = some (.int .i64 r.bf.v.o.kind) ∧ WF.cell? ⟨w.heap.size, 7, none⟩ = some (.slice r.bf.aI r.bf.v.o.ints.length r.bf.cI) ∧ WF.cell? ⟨w.heap.size, 8, none⟩ = some (.slice r.bf.aR r.bf.v.o.refs.length r.bf.cR) := HS.out _ (HX.out _ ((hb1.trans (hB1.mono hb1.size)).trans (hwF.below (by have := hb1.size; omega) (by have := hb1.size; omega))))
   refine wpAnyH_ready (rs := [13]) (by kernel_rfl) (by simp) ?_
   refine AllReadyH.cons rfl (fun K hK => ?_) AllReadyH.nil
   rw [if_pos (by rfl)]
   refine wp_store_mid 39 (.tmp 7) (.tmp 28) rfl (w1.heap.size) 0 (backA n r.tx p r.oid t r.prev).cells.toArray rfl rfl HTF.out (by rw [List.size_toArray]; exact rec_info _) (rec_one _) ?_
   have HW : Hid ((u1).setCells (w1.heap.size) 0 (backA n r.tx p r.oid t r.prev).cells.toArray.toList = WF) := hWF.out
   rw [HW.out]
   refine hK.out _ _ hSF (fun hHeld => ?_)
   refine wpAnyH_done (by kernel_rfl) ?_ _
   have hRel : Hid (Below w1.heap.size w1 WF ∧ t.own WF w1.heap.size WF.heap.size) := ⟨hB1.trans (hwF.below (by omega) (by omega)), OwnO.widen (OwnO.within ho hwF (by omega)) (by first | omega | exact Nat.le_refl _) (by omega) (Nat.le_refl _)⟩
   clear hHeld hK K HW hWF hwF HTF hSF
   go_wp2_with fail
   go_meet
   case rel => exact ⟨w1.heap.size, t, rfl, hv, bF, hRel.out.2, hRel.out.1⟩
 case rest =>
  obtain ⟨B7, t, rfl, hv, b7, ho, hbc⟩ := hcut
  have M4 : Below W.heap.size W wc := hb1.trans (hbc.mono hb1.size)
  have B4 : Below w.heap.size w wc := B1.trans (hbc.mono B1.size)
  have hsc := hbc.size
  have hB1s := B1.size
  have HTV : Hid ((backA n r.tx p r.oid t r.prev).v = backV r.v n p) := by simp only [Hid, RecA.v, backA, backV, hv.out]; rfl
  have hts : (backA n r.tx p r.oid t r.prev).short 1099511627776 := ⟨⟨Nat.zero_le _, Nat.zero_le _⟩, by rw [show (backA n r.tx p r.oid t r.prev).af = t from rfl, hv.out]; exact hl.bf, Nat.zero_le _⟩
  have hto : (backA n r.tx p r.oid t r.prev).own wc w1.heap.size wc.heap.size := own_backA _ _ _ _ _ ho (Nat.le_refl _)
  generalize backA n r.tx p r.oid t r.prev = T at *
  have C6 := specRecOk_any T wc hto.reads hts
  rw [HTV.out] at C6
  have HR5 : Hid (∀ u, Below wc.heap.size wc u → u.rangeAt B7 0 T.cells) := fun u hu => Box.range [] T.cells [] (by simpa using b7.below hu b7.lt)
  have r5 := HR5.out _ (Below.refl _ _)
  clear k3 hk
  go_wp2_with (first | (guard_target = wpList _ _ _ (Oper.mk (some 29) _ _ _ _ _ :: _) _ _; refine wpList_load_mid rfl 39 (.tmp 7) rfl B7 0 rfl T.cells _ r5 Tryz.underlying39 rfl (rec_info _) ?_) | fail)
  clear r5
  refine C6.mono ?_
  clear C6
  rintro e w6 ⟨rfl, hb6⟩
  have M6 : Below W.heap.size W w6 := M4.trans (hb6.mono M4.size)
  have B6 : Below w.heap.size w w6 := B4.trans (hb6.mono B4.size)
  have hs6 := hb6.size
  cases hok6 : okR (backV r.v n p) with
  | false =>
   have HR : Hid (zeroR.v = R) := (HU2.out hok6).symm
   obtain ⟨WF, hWF, hwF, hsF, HTF, HLF, _⟩ := rec_out zeroR _ rfl (HX1.out _ M6)
   have HE : Hid (zeroR.own WF w.heap.size WF.heap.size ∧ Below w.heap.size w WF) := ⟨own_zeroR _ _ _ (Nat.le_refl _), B6.trans (hwF.below (by omega) (by omega))⟩
   clear hwF hsF HU2 HU5 hok6
   go_wp2_with (first | (guard_target = wpList _ _ _ (Oper.mk none (Op.store _ (Operand.tmp 6) _) _ _ _ _ :: _) _ _; refine wpList_store_mid rfl 39 (.tmp 6) (.tmp 32) rfl (w.heap.size + 1) 0 zeroR.cells.toArray rfl rfl HTF.out (by rw [List.size_toArray]; exact rec_info _) (rec_one _) ?_) | fail)
   rw [hWF.out]
   exact bodyPost_ret (v := .agg zeroR.cells.toArray) (results_one Tryz.results129 rfl HLF.out) rfl ⟨zeroR, rfl, HR, HE.out.1, HE.out.2⟩
  | true =>
   have HR : Hid (T.v = R) := HTV.out.trans (HU5.out hok6).symm
   obtain ⟨WF, hWF, hwF, hsF, HTF, HLF, _⟩ := rec_out T _ rfl (HX1.out _ M6)
   have oF : T.own WF w.heap.size WF.heap.size := ((hto.below hb6).within hwF (.inr (by omega))).widen (by omega) (by omega) (Nat.le_refl _)
   have HE : Hid (T.own WF w.heap.size WF.heap.size ∧ Below w.heap.size w WF) := ⟨oF, B6.trans (hwF.below (by omega) (by omega))⟩
   have r6 := HR5.out _ hb6
   clear hwF hsF HU2 HU5 hok6 oF
   go_wp2_with (first | (guard_target = wpList _ _ _ (Oper.mk (some 33) _ _ _ _ _ :: _) _ _; refine wpList_load_mid rfl 39 (.tmp 7) rfl B7 0 rfl T.cells _ r6 Tryz.underlying39 rfl (rec_info _) ?_) | (guard_target = wpList _ _ _ (Oper.mk none (Op.store _ (Operand.tmp 6) _) _ _ _ _ :: _) _ _; refine wpList_store_mid rfl 39 (.tmp 6) (.tmp 33) rfl (w.heap.size + 1) 0 T.cells.toArray rfl rfl HTF.out (by rw [List.size_toArray]; exact rec_info _) (rec_one _) ?_) | fail)
   rw [hWF.out]
   exact bodyPost_ret (v := .agg T.cells.toArray) (results_one Tryz.results129 rfl HLF.out) rfl ⟨T, rfl, HR, HE.out.1, HE.out.2⟩
end Go.Proofs.YtoboickdkednkaaGreatDoor
namespace Go.Proofs.YtoboickdkednkaaGreatDoor
open Go.RowKit
attribute [local go_sem ↓] Go.wp_at_zero Go.wp_at_succ
def ShortV (r : RecV) : Prop := (r.bf.o.ints.length ≤ 1099511627776 ∧ r.bf.o.refs.length ≤ 1099511627776) ∧ (r.af.o.ints.length ≤ 1099511627776 ∧ r.af.o.refs.length ≤ 1099511627776) ∧ r.txs.length ≤ 1099511627776
structure LogGood (e : EngV) : Prop where
 prev : ∀ i, i < e.log.recs.length → ∃ p : Nat, (e.log.recs.getD i zeroR.v).prev = p ∧ p ≤ i
 short : ∀ r ∈ e.log.recs, ShortV r
theorem short_rec {r : RecA} (h : ShortV r.v) : r.short 1099511627776 := ⟨h.1, h.2.1, h.2.2⟩
theorem LogGood.snoc {e e' : EngV} {r : RecV} (h : LogGood e) (he : e'.log.recs = e.log.recs ++ [{ r with lsn := (e.log.recs.length : Int) + 1 }]) (hp : ∃ p : Nat, r.prev = p ∧ p ≤ e.log.recs.length) (hs : ShortV r) : LogGood e' := by
 obtain ⟨y, hy⟩ : ∃ y : RecV, ({ r with lsn := (e.log.recs.length : Int) + 1 } : RecV) = y := ⟨_, rfl⟩
 have hyp : y.prev = r.prev := by rw [← hy]
 have hys : ShortV y := by rw [← hy]; exact hs
 rw [hy] at he
 refine ⟨fun i hi => ?_, fun x hx => ?_⟩
 ·rw [he, List.length_append, List.length_singleton] at hi
  by_cases h1 : i < e.log.recs.length
  ·have e1 : e'.log.recs.getD i zeroR.v = e.log.recs.getD i zeroR.v := by rw [he]; simp [List.getD, List.getElem?_append_left h1]
   rw [e1]
   exact h.prev i h1
  ·have h2 : i = e.log.recs.length := by omega
   have e1 : e'.log.recs.getD i zeroR.v = y := by rw [he, h2]; simp [List.getD]
   rw [e1, hyp, h2]
   exact hp
 ·rw [he] at hx
  rcases List.mem_append.1 hx with h1 | h1
  ·exact h.short x h1
  ·rw [List.mem_singleton.1 h1]; exact hys
theorem undo_oid (r : RecV) (n p : Int) : ∃ m : Nat, (undoV r n p).oid = m ∧ m < 32 := by
 unfold undoV
 split
 ·next h =>
  have hb := okR_bd h.2.2
  exact ⟨(backV r n p).oid.toNat, by have := hb.oid; omega, by have := hb.oid; omega⟩
 ·exact ⟨0, rfl, by omega⟩
theorem undo_short {r : RecV} {n p : Int} (h : ShortV r) : ShortV (undoV r n p) := by
 unfold undoV
 split
 ·exact ⟨⟨Nat.zero_le _, Nat.zero_le _⟩, h.1, Nat.zero_le _⟩
 ·exact ⟨⟨Nat.zero_le _, Nat.zero_le _⟩, ⟨Nat.zero_le _, Nat.zero_le _⟩, Nat.zero_le _⟩
theorem undo_prev (r : RecV) (n : Int) (l : Nat) {m : Nat} (h : l ≤ m) : ∃ p : Nat, (undoV r n l).prev = p ∧ p ≤ m := by
 unfold undoV
 split
 ·exact ⟨l, rfl, h⟩
 ·exact ⟨0, rfl, Nat.zero_le _⟩
def undoLoop : Nat → EngV → Int → Int → EngV × Int
 | 0, e, _, last => (e, last)
 | n + 1, e, at_, last =>
  if 0 < at_ then
   let r := e.log.recs.getD (at_ - 1).toNat zeroR.v
   if r.kind = 1 then
    let u := undoV r ((e.log.recs.length : Int) + 1) last
    undoLoop n (applyV (logV e u) u.oid.toNat u.af ((e.log.recs.length : Int) + 1)) r.prev ((e.log.recs.length : Int) + 1)
   else undoLoop n e r.prev last
  else (e, last)
theorem undoLoop_zero (n : Nat) (e : EngV) (l : Int) : undoLoop n e 0 l = (e, l) := by cases n <;> rfl
def abortV (e : EngV) (tx : Int) : EngV :=
 let e1 := logV e (recV tx (lastOf e.log.recs tx) 3)
 let x := undoLoop e.log.recs.length e1 (lastOf e.log.recs tx) ((e.log.recs.length : Int) + 1)
 endsV (logV x.1 (recV tx x.2 5)) tx
theorem last_le (tx : Int) (rs : List RecV) (k : Nat) : ∃ m : Nat, lastFrom tx rs k = m ∧ m ≤ k := by
 induction k with
 | zero => exact ⟨0, rfl, Nat.le_refl _⟩
 | succ k ih =>
  rw [lastFrom]
  split
  ·exact ⟨k + 1, rfl, Nat.le_refl _⟩
  ·obtain ⟨m, h1, h2⟩ := ih
   exact ⟨m, h1, by omega⟩
theorem l7Abort_any (E : Nat) (e : EngA) (tx : Int) (w : World) (h : EngAt w E e) (hp : e.v.poolOk) (hg : LogGood e.v) (hlen : 2 * e.log.recs.length + 3 ≤ 68719476736) (hT : e.txs.length ≤ 68719476736) (hH : e.holds.length ≤ 68719476736) :
  Calls Tryz.prog 116 #[.pointer (some ⟨E, 0, none⟩), .int .i64 tx] w fun r w' => (∃ v, r = .returned v) ∧ ∃ e', Hid (e'.v = abortV e.v tx) ∧ EngStep E e w e' w' := by
 have HI : Hid ((Tryz.prog.info? 26).map (·.size) = some e.log.cells.length) := log_info e.log
 have r0 := h.rangeLog
 have C0 := l7Last_any e.log tx w h.own.log.reads (by omega)
 obtain ⟨m0, hm0, hm0l⟩ := last_le tx (e.log.recs.map RecA.v) (e.log.recs.map RecA.v).length
 have HM0 : Hid (lastOf (e.log.recs.map RecA.v) tx = (m0 : Int)) := hm0
 rw [List.length_map] at hm0l
 rw [HM0.out] at C0
 clear hm0
 go_enter Tryz.func116, Tryz.ntmps116
 go_wp2_with (first | (guard_target = wpList _ _ _ (Oper.mk (some 11) _ _ _ _ _ :: _) _ _; refine wpList_load_mid rfl 26 (.tmp 10) rfl E 138 rfl e.log.cells _ r0 Tryz.underlying26 rfl HI.out ?_) | fail)
 refine C0.mono ?_
 clear C0 r0 HI
 rintro r w1 ⟨rfl, hb1⟩
 have a1 := h.below hb1
 have C1 := l7Log_any E e (recE tx m0 3) w1 a1 (recE_own _ _ _ _ _ _ (Nat.le_refl _)) (by simp [recE_blocks]) (by simp [recE_blocks]) (by omega) (by omega)
 go_wp2_with (first | (guard_target = wpList _ _ _ (Oper.mk (some 17) _ _ _ _ _ :: _) _ _; refine build_rec3 (.tmp 15) (.tmp 16) tx m0 3 rfl rfl ?_) | fail)
 refine C1.mono ?_
 clear C1
 rintro r w2 ⟨rfl, e2, he2, ha2, m2⟩
 have S2 : EngStep E e w e2 w2 := EngStep.after hb1 m2.plain
 have HE2 : Hid (e2.v = logV e.v (recV tx m0 3)) := he2.out
 have hl2 : e2.log.recs.length = e.log.recs.length + 1 := by rw [ha2.out.2.2]; simp
 have HG2 : Hid (e2.v.poolOk ∧ LogGood e2.v ∧ e2.txs.length = e.txs.length ∧ e2.holds = e.holds) := by
  refine ⟨by rw [he2.out]; exact log_ok _ hp _, ?_, by rw [v_txs he2.out]; simp only [logV]; rw [lastV_len]; rfl, by rw [v_holds he2.out]; rfl⟩
  refine hg.snoc (r := recV tx m0 3) (by rw [he2.out]; rfl) ⟨m0, rfl, by show m0 ≤ (e.log.recs.map RecA.v).length; rw [List.length_map]; exact hm0l⟩ ⟨⟨Nat.zero_le _, Nat.zero_le _⟩, ⟨Nat.zero_le _, Nat.zero_le _⟩, Nat.zero_le _⟩
 obtain ⟨R, hR⟩ : ∃ R, Hid (undoLoop e.log.recs.length e2.v m0 ((e.log.recs.length : Int) + 1) = R) := ⟨_, rfl⟩
 have hRR : Hid (undoLoop e.log.recs.length e2.v m0 ((e.log.recs.length : Int) + 1) = R) := hR
 clear he2 ha2 m2
 go_wp2_with fail
 go_loopg [4, 5] e.log.recs.length (fun n v4 v5 wr => ∃ (e1 : EngA) (m l : Nat), v4 = .int .i64 m ∧ v5 = .int .i64 l ∧ m ≤ n ∧ m ≤ e1.log.recs.length ∧ l ≤ e1.log.recs.length ∧ e1.log.recs.length + n + 1 ≤ 68719476736 ∧ e1.v.poolOk ∧ LogGood e1.v ∧ e1.txs.length = e.txs.length ∧ e1.holds = e.holds ∧ Hid (undoLoop n e1.v m l = R) ∧ EngStep E e w e1 wr)
 case atStart => exact ⟨e2, m0, e.log.recs.length + 1, rfl, by go_num, by omega, by omega, by omega, by omega, HG2.out.1, HG2.out.2.1, HG2.out.2.2.1, HG2.out.2.2.2, hR, S2⟩
 case round =>
  obtain ⟨e1, m, l, rfl, rfl, hmn, hml, hll, hnl, hok, hgood, htx, hho, hUL, S1⟩ := hrel
  clear HG2 hR S2 hl2
  cases m with
  | zero =>
   have HRR : Hid (R = (e1.v, (l : Int))) := by rw [Hid, ← hUL.out]; exact undoLoop_zero gk e1.v l
   have C9 := l7Log_any E e1 (recE tx l 5) wr S1.at' (recE_own _ _ _ _ _ _ (Nat.le_refl _)) (by simp [recE_blocks]) (by simp [recE_blocks]) (by omega) (by omega)
   clear hUL
   go_wp2_with (first | (guard_target = wpList _ _ _ (Oper.mk (some 58) _ _ _ _ _ :: _) _ _; refine build_rec3 (.tmp 56) (.tmp 57) tx l 5 rfl rfl ?_) | fail)
   refine C9.mono ?_
   clear C9
   rintro r w9 ⟨rfl, e9, he9, _, m9⟩
   have S9 := S1.trans m9.plain
   have C10 := l7Ends_any E e9 tx w9 S9.at' (by rw [v_txs he9.out]; simp only [logV]; rw [lastV_len]; show e1.txs.length ≤ _; rw [htx]; exact hT) (by rw [v_holds he9.out]; show e1.holds.length ≤ _; rw [hho]; exact hH)
   go_wp2_with fail
   refine C10.mono ?_
   clear C10
   rintro r w10 ⟨⟨v10, rfl⟩, e10, he10, _, s10⟩
   have HEND : Hid (e10.v = abortV e.v tx) := by
    have e3 : lastOf e.v.log.recs tx = (m0 : Int) := HM0.out
    have e4 : (e.v.log.recs.length : Int) = (e.log.recs.length : Int) := by simp [EngA.v, LogA.v]
    have e5 : e.v.log.recs.length = e.log.recs.length := by simp [EngA.v, LogA.v]
    rw [Hid, he10.out, he9.out]
    unfold abortV
    simp only
    rw [e3, e5, ← HE2.out, hRR.out, HRR.out]
    rfl
   have S10 := S9.trans s10
   clear he9 he10 s10 m9 S9 HRR hRR
   go_wp2
   go_end0
   exact ⟨⟨_, rfl⟩, e10, HEND, S10⟩
  | succ m =>
   cases gk with
   | zero => exact absurd hmn (Nat.not_succ_le_zero _)
   | succ n =>
   have hm : m < e1.log.recs.length := by omega
   have a1 := S1.at'
   obtain ⟨b, off, ha, hcell⟩ := a1.own.log.reads (by intro e3; rw [e3] at hm; simp at hm)
   have r3 := (hcell m hm).1
   have rdz := (hcell m hm).2
   clear hcell
   have x0 : wr.cell? ⟨E, 138, none⟩ = some (.slice (some ⟨b, off, none⟩) e1.log.recs.length e1.log.c) := by rw [← ha]; exact EngA.cell_at a1.shape a1.box 2 _ rfl
   have hzv : e1.v.log.recs.getD m zeroR.v = (e1.log.recs.getD m zeroR).v := recV_at e1.log.recs m
   have hvl : e1.v.log.recs.length = e1.log.recs.length := by simp [EngA.v, LogA.v]
   have hprev : ∃ p : Nat, (e1.log.recs.getD m zeroR).prev = p ∧ p ≤ m := by
    have h1 := hgood.prev m (by rw [hvl]; exact hm)
    rw [hzv] at h1
    exact h1
   have hshz : ShortV (e1.log.recs.getD m zeroR).v := hgood.short _ (List.mem_map_of_mem (recD_mem e1.log.recs m hm))
   have HUL0 : Hid ((if (e1.log.recs.getD m zeroR).v.kind = 1 then undoLoop n (applyV (logV e1.v (undoV (e1.log.recs.getD m zeroR).v ((e1.log.recs.length : Int) + 1) l)) (undoV (e1.log.recs.getD m zeroR).v ((e1.log.recs.length : Int) + 1) l).oid.toNat (undoV (e1.log.recs.getD m zeroR).v ((e1.log.recs.length : Int) + 1) l).af ((e1.log.recs.length : Int) + 1)) (e1.log.recs.getD m zeroR).v.prev ((e1.log.recs.length : Int) + 1) else undoLoop n e1.v (e1.log.recs.getD m zeroR).v.prev l) = R) := by
    have h1 := hUL.out
    rw [undoLoop, if_pos (by omega), show (((m + 1 : Nat) : Int) - 1).toNat = m by omega] at h1
    simp only [hzv, hvl] at h1
    exact h1
   generalize e1.log.recs.getD m zeroR = z at *
   clear hUL hzv hvl ha
   obtain ⟨W3, hW3, b3, hb3, hs3⟩ := boxes1 wr zeroR.cells 39
   obtain ⟨W4, hW4, hw4, hs4, HT4, _, bR⟩ := rec_out z _ rfl b3
   have hW3' : Hid (wr.alloc (.cells #[.int .i64 0, .int .i64 0, .int .i64 0, .int .i64 0, .int .i64 0, .bool false, .int .i64 0, .slice none 0 0, .slice none 0 0, .bool false, .int .i64 0, .slice none 0 0, .slice none 0 0, .int .i64 0, .slice none 0 0] 39) = W3) := hW3.out
   have hW4' : Hid (W3.setCells wr.heap.size 0 z.cells.toArray.toList = W4) := hW4.out
   have N4 : Below wr.heap.size wr W4 := hb3.trans (hw4.below (Nat.le_refl _) (by omega))
   have HI : Hid ((Tryz.prog.info? 39).map (·.size) = some z.cells.length) := rec_info z
   have HO4 := rec_one z
   have hmm : (m : Int) < (e1.log.recs.length : Int) := by omega
   have hm0' : (0 : Int) ≤ (m : Int) := by omega
   have hsW := S1.size
   have hRlt : wr.heap.size < W4.heap.size := bR.lt
   clear hW3 hW4 hs3 hs4 hw4 hb3 b3
   go_upto_region 4 with (first | (guard_target = wpList _ _ _ (Oper.mk (some 29) _ _ _ _ _ :: _) _ _; refine wpList_load_mid rfl 39 (.tmp 28) rfl b (off + m * 15) rfl z.cells _ r3 Tryz.underlying39 rfl HI.out ?_) | (guard_target = wpList _ _ _ (Oper.mk none (Op.store _ (Operand.tmp 6) _) _ _ _ _ :: _) _ _; refine wpList_store_mid rfl 39 (.tmp 6) (.tmp 29) rfl wr.heap.size 0 z.cells.toArray rfl rfl (by rw [hW3'.out]; exact HT4.out) HI.out HO4 ?_; rw [hW3'.out, hW4'.out]) | fail)
   clear hW3' hW4' HT4 HO4 r3 x0
   have x4 := bR.cell 3 _ (show z.cells[3]? = some (.int .i64 z.kind) from rfl)
   by_cases hk1 : z.kind = 1
   ·have hkb : (z.kind == 1) = true := by simpa using hk1
    have HUL : Hid (undoLoop n (applyV (logV e1.v (undoV z.v ((e1.log.recs.length : Int) + 1) l)) (undoV z.v ((e1.log.recs.length : Int) + 1) l).oid.toNat (undoV z.v ((e1.log.recs.length : Int) + 1) l).af ((e1.log.recs.length : Int) + 1)) z.prev ((e1.log.recs.length : Int) + 1) = R) := by
     have h1 := HUL0.out
     rw [if_pos (show z.v.kind = 1 from hk1)] at h1
     exact h1
    clear HUL0 hk1
    go_upto_region 5 with fail
    clear x4
    have hoffR : Off E e1 wr.heap.size := S1.at'.new (Nat.le_refl _)
    have HSS : Hid (∀ u, EngAt u E e1 → Box u wr.heap.size z.cells 39 → u.rangeAt wr.heap.size 0 z.cells ∧ u.cell? ⟨E, 138, none⟩ = some (.slice e1.log.a e1.log.recs.length e1.log.c)) := fun u hu hbu => ⟨Box.range [] z.cells [] (by simpa using hbu), EngA.cell_at hu.shape hu.box 2 _ rfl⟩
    have ND : Below W4.heap.size W4 W4.drew := (Below.refl _ _).drew
    refine wp_region_held_drew (S := fun w' => w'.rangeAt wr.heap.size 0 z.cells ∧ w'.cell? ⟨E, 138, none⟩ = some (.slice e1.log.a e1.log.recs.length e1.log.c)) (by kernel_rfl) ?_ (fun hHeld => ?_)
    ·exact HSS.out _ ((S1.at'.below N4).below ND) (bR.below ND bR.lt)
    refine tk 0 rfl (yieldsIf_load_mid (by rfl) _ _ rfl _ _ rfl z.cells _ (fun _ h => h.1) Tryz.underlying39 rfl HI.out) hHeld ?_
    try simp only [Act.put, zA, zB, zD, zE, zF]
    refine tk 1 (v := .pointer (some ⟨E, 0, none⟩)) rfl (Or.inl ⟨by rfl, ?_⟩) hHeld ?_
    ·intro w' hSw
     go_simp <;> rfl
    try simp only [Act.put, zA, zB, zC, zD, zE, zF]
    refine tk 2 (v := .pointer (some ⟨E, 0, none⟩)) rfl (Or.inl ⟨by rfl, ?_⟩) hHeld ?_
    ·intro w' hSw
     go_simp <;> rfl
    try simp only [Act.put, zA, zB, zC, zD, zE, zF]
    refine tk 3 (v := .pointer (some ⟨E, 138, none⟩)) rfl (Or.inl ⟨by rfl, ?_⟩) hHeld ?_
    ·intro w' hSw
     go_simp <;> rfl
    try simp only [Act.put, zA, zB, zC, zD, zE, zF]
    refine tk 4 (v := .pointer (some ⟨E, 138, none⟩)) rfl (Or.inl ⟨by rfl, ?_⟩) hHeld ?_
    ·intro w' hSw
     go_simp <;> rfl
    try simp only [Act.put, zA, zB, zC, zD, zE, zF]
    refine tk 5 (v := .slice e1.log.a e1.log.recs.length e1.log.c) rfl (Or.inl ⟨by rfl, ?_⟩) hHeld ?_
    ·intro w' hSw
     have hx := hSw.2
     go_simp <;> rfl
    try simp only [Act.put, zA, zB, zC, zD, zE, zF]
    refine tk 6 (v := .int .i64 (e1.log.recs.length : Int)) rfl (Or.inl ⟨by rfl, ?_⟩) hHeld ?_
    ·intro w' hSw
     go_simp <;> rfl
    try simp only [Act.put, zA, zB, zC, zD, zE, zF]
    have hwr : IntKind.i64.wrap ((e1.log.recs.length : Int) + 1) = (e1.log.recs.length : Int) + 1 := by rw [IntKind.wrap_i64]; omega
    refine tk 7 (v := .int .i64 ((e1.log.recs.length : Int) + 1)) rfl (Or.inl ⟨by rfl, ?_⟩) hHeld ?_
    ·intro w' hSw
     go_simp <;> rfl
    try simp only [Act.put, zA, zB, zC, zD, zE, zF]
    clear hwr
    refine tk 8 (v := .int .i64 l) rfl (Or.inl ⟨by rfl, ?_⟩) hHeld ?_
    ·intro w' hSw
     go_simp <;> rfl
    try simp only [Act.put, zA, zB, zC, zD, zE, zF]
    refine wpAnyH_ready (rs := [9, 10]) (by kernel_rfl) (by simp) ?_
    refine AllReadyH.cons rfl (fun K hK => ?_) (AllReadyH.cons rfl (fun K hK => ?_) AllReadyH.nil)
    ·have S4 : EngStep E e w e1 W4.drew := (S1.below N4).below ND
     have bR4 := bR.below ND bR.lt
     have C5 := specUndoOf_any z ((e1.log.recs.length : Int) + 1) l W4.drew (rdz.below (N4.trans (ND.mono N4.size))) (short_rec hshz)
     have hs4 : W4.heap.size ≤ W4.drew.heap.size := ND.size
     go_simp
     refine C5.mono ?_
     clear C5
     rintro r w5 ⟨u, rfl, huv, ou, hb5⟩
     have S5 := S4.below hb5
     have bR5 := bR4.below hb5 bR4.lt
     have hs45 := hb5.size
     refine hK.out _ _ (HSS.out _ S5.at' bR5) (fun hHeld => ?_)
     clear hK K
     try simp only [Act.put, zA, zB, zC, zD, zE, zF]
     obtain ⟨W6, hW6, b6, hb6, hs6⟩ := boxes1 w5 zeroR.cells 39
     have hW6' : Hid (w5.alloc (.cells #[.int .i64 0, .int .i64 0, .int .i64 0, .int .i64 0, .int .i64 0, .bool false, .int .i64 0, .slice none 0 0, .slice none 0 0, .bool false, .int .i64 0, .slice none 0 0, .slice none 0 0, .int .i64 0, .slice none 0 0] 39) = W6) := hW6.out
     have S6' := S5.below hb6
     have bR6' := bR5.below hb6 bR5.lt
     refine wpAnyH_ready (rs := [10]) (by kernel_rfl) (by simp) ?_
     refine AllReadyH.cons rfl (fun K hK => ?_) AllReadyH.nil
     go_simp
     rw [hW6'.out]
     refine hK.out _ _ (HSS.out _ S6'.at' bR6') (fun hHeld => ?_)
     clear hK K
     try simp only [Act.put, zA, zB, zC, zD, zE, zF]
     obtain ⟨w6, hw6, hww6, hs66, HT6, _, bU6⟩ := rec_out u _ rfl b6
     have hoffX : Off E e1 w5.heap.size := S5.at'.new (Nat.le_refl _)
     have S6 : EngStep E e w e1 w6 := EngStep.put S6' hww6 hoffX (by have := S5.size; omega)
     have bR6 := bR6'.within hww6 (by omega)
     have ou6 : u.own w6 0 w6.heap.size := ((ou.below hb6).within hww6 (.inl (Nat.le_refl _))).widen (Nat.zero_le _) (by omega) (Nat.le_refl _)
     have huB : ∀ i ∈ u.blocks, W4.heap.size ≤ i ∧ i < w5.heap.size := fun i hi => ou.blocks_lt i hi
     have huE : ∀ i ∈ u.blocks, i ∉ e1.blocks := fun i hi hm1 => by have := (huB i hi).1; have := S1.at'.lt i hm1; omega
     have huN : E ∉ u.blocks := fun hi => by have := (huB E hi).1; have := S1.at'.box.lt; omega
     have huW : ∀ i ∈ u.blocks, w.heap.size ≤ i := fun i hi => by have := (huB i hi).1; omega
     have hXu : w5.heap.size ∉ u.blocks := fun hi => by have := (huB _ hi).2; omega
     have hRu : wr.heap.size ∉ u.blocks := fun hi => by have := (huB _ hi).1; omega
     have hw6' : Hid (W6.setCells w5.heap.size 0 u.cells.toArray.toList = w6) := hw6.out
     refine wpAnyH_ready (rs := [11]) (by kernel_rfl) (by simp) ?_
     refine AllReadyH.cons rfl (fun K hK => ?_) AllReadyH.nil
     rw [if_pos (by rfl)]
     refine wp_store_mid 39 (.tmp 7) (.tmp 42) rfl w5.heap.size 0 u.cells.toArray rfl rfl HT6.out (rec_info u) (rec_one u) ?_
     rw [hw6'.out]
     refine hK.out _ _ (HSS.out _ S6.at' bR6) (fun hHeld => ?_)
     clear hK K
     try simp only [Act.put, zA, zB, zC]
     refine wpAnyH_done (by kernel_rfl) ?_ _
     clear hHeld hw6' hw6 hww6 hs66 HT6 S6' bR6' b6 hb6 hs6 hW6 hW6' S5 bR5 S4 bR4 ou hb5
     generalize w5.heap.size = X at *
     have HUO := undo_oid z.v ((e1.log.recs.length : Int) + 1) (l : Int)
     rw [← huv.out] at HUO
     obtain ⟨od, hod, hod32⟩ := HUO
     have hod' : u.oid = (od : Int) := hod
     have HUS : Hid (ShortV u.v) := by rw [Hid, huv.out]; exact undo_short hshz
     have C6 := l7Log_any E e1 u w6 S6.at' ou6 huE huN (by omega) (by omega)
     have r6 := Box.range [] u.cells [] (by simpa using bU6)
     go_wp2_with (first | (guard_target = wpList _ _ _ (Oper.mk (some 44) _ _ _ _ _ :: _) _ _; refine wpList_load_mid rfl 39 (.tmp 7) rfl X 0 rfl u.cells _ r6 Tryz.underlying39 rfl (rec_info u) ?_) | fail)
     refine C6.mono ?_
     clear C6 r6
     rintro r w7 ⟨rfl, e7, he7, ha7, m7⟩
     have bU7 := m7.boxes bU6 hoffX hXu
     have bR7 := m7.boxes bR6 hoffR hRu
     have S7 : EngStep E e w e7 w7 := EngMore.step S6 m7 (fun i hi => huW i hi)
     have hok7 : e7.v.poolOk := by rw [he7.out]; exact log_ok _ hok _
     have hl7 : e7.log.recs.length = e1.log.recs.length + 1 := by rw [ha7.out.2.2]; simp
     obtain ⟨k7, hk7a, hk7b, _⟩ := fetch_seat e7.v hok7 (od / 4)
     have hfu : Fit [u.af] := fun y hy => by rw [List.mem_singleton.1 hy]; exact HUS.out.2.1
     have CA := l7Apply_any E e7 od u.af ((e1.log.recs.length : Int) + 1) w7 S7.at' hok7 hod32 (fun v e' hv hrecs _ => by
      have h1 := hv.own.log.each { u with lsn := (e1.log.recs.length : Int) + 1 } (by rw [hrecs, ha7.out.2.2]; simp)
      exact OwnO.reads h1.af) hfu ⟨k7, hk7a, hk7b⟩
     have x7 := bU7.cell 4 _ (show u.cells[4]? = some (.int .i64 u.oid) from rfl)
     rw [hod'] at x7
     have r7 : w7.rangeAt X 9 u.af.cells := by
      have h1 : Box w7 X ([.int .i64 u.lsn, .int .i64 u.tx, .int .i64 u.prev, .int .i64 u.kind, .int .i64 u.oid, .bool u.bf.v.has, .int .i64 u.bf.v.o.kind, .slice u.bf.aI u.bf.v.o.ints.length u.bf.cI, .slice u.bf.aR u.bf.v.o.refs.length u.bf.cR] ++ (u.af.cells ++ [.int .i64 u.next, .slice u.aL u.txs.length u.cL])) 39 := bU7
      exact Box.range _ _ _ h1
     have HE7 : Hid (e7.v = logV e1.v u.v) := he7.out
     clear he7 hk7a hk7b hfu
     go_wp2_with (first | (guard_target = wpList _ _ _ (Oper.mk (some 50) _ _ _ _ _ :: _) _ _; refine wpList_load_mid rfl 36 (.tmp 49) rfl X 9 rfl u.af.cells _ r7 Tryz.underlying36 rfl (slot_info u.af) ?_) | fail)
     refine CA.mono ?_
     clear CA r7 x7
     rintro r w8 ⟨⟨v8, rfl⟩, e8, he8, hr8, s8⟩
     have hoffR7 := m7.off bR6.lt hoffR hRu
     have bR8 := s8.boxes bR7 hoffR7
     have S8 := S7.trans s8
     have x8 := bR8.cell 2 _ (show z.cells[2]? = some (.int .i64 z.prev) from rfl)
     have HV8 : Hid (e8.v = applyV (logV e1.v (undoV z.v ((e1.log.recs.length : Int) + 1) l)) od (undoV z.v ((e1.log.recs.length : Int) + 1) l).af ((e1.log.recs.length : Int) + 1)) := by
      rw [Hid, he8.out, HE7.out, ← huv.out]
      rfl
     have HOD : Hid ((undoV z.v ((e1.log.recs.length : Int) + 1) l).oid.toNat = od) := by rw [Hid, ← huv.out, show u.v.oid = (od : Int) from hod, Int.toNat_natCast]
     obtain ⟨pv, hpv, hpvm⟩ := hprev
     rw [hpv] at x8
     have HG8 : Hid (e8.v.poolOk ∧ LogGood e8.v ∧ e8.txs.length = e.txs.length ∧ e8.holds = e.holds ∧ e8.log.recs.length = e1.log.recs.length + 1) := by
      refine ⟨?_, ?_, ?_, ?_, by rw [hr8.out]; exact hl7⟩
      ·rw [he8.out]
       exact apply_ok _ hok7 od hod32 _ (fun y hy => by rw [List.mem_singleton.1 hy]; exact HUS.out.2.1) _
      ·have e9 : e8.v.log.recs = e1.v.log.recs ++ [{ u.v with lsn := (e1.v.log.recs.length : Int) + 1 }] := by
        rw [he8.out, (apply_rest e7.v od u.af.v _).2.2.1, HE7.out]; rfl
       exact hgood.snoc e9 (by rw [huv.out]; exact undo_prev z.v _ l (by show l ≤ (e1.log.recs.map RecA.v).length; rw [List.length_map]; exact hll)) HUS.out
      ·rw [v_txs he8.out, (apply_rest e7.v od u.af.v _).1, HE7.out]; simp only [logV]; rw [lastV_len]; exact htx
      ·rw [v_holds he8.out, (apply_rest e7.v od u.af.v _).2.1, HE7.out]; exact hho
     have HR8 : Hid (undoLoop n e8.v pv ((e1.log.recs.length : Int) + 1) = R) := by
      rw [Hid, ← HUL.out, HV8.out, HOD.out, hpv]
     have hl8 := HG8.out.2.2.2.2
     clear he8 HE7 HV8 HOD S7 s8 bR7 bU7 m7 hok7 ha7 hod hod' hpv
     go_wp2_with fail
     go_roundg n
     case measure => omega
     case rel => exact ⟨e8, pv, e1.log.recs.length + 1, by go_num, by go_num, by omega, by omega, by omega, by omega, HG8.out.1, HG8.out.2.1, HG8.out.2.2.1, HG8.out.2.2.2.1, HR8, S8⟩
    ·obtain ⟨V6, hV6, b6', hb6', hs6⟩ := boxes1 W4 zeroR.cells 39
     have hV6' : Hid (W4.alloc (.cells #[.int .i64 0, .int .i64 0, .int .i64 0, .int .i64 0, .int .i64 0, .bool false, .int .i64 0, .slice none 0 0, .slice none 0 0, .bool false, .int .i64 0, .slice none 0 0, .slice none 0 0, .int .i64 0, .slice none 0 0] 39) = V6) := hV6.out
     obtain ⟨W6, hW6⟩ : ∃ W6, Hid (V6.drew = W6) := ⟨_, rfl⟩
     go_simp
     rw [hV6'.out, hW6.out]
     have b6 : Box W6 W4.heap.size zeroR.cells 39 := by rw [← hW6.out]; exact b6'.drewN 1
     have N46 : Below W4.heap.size W4 W6 := by rw [← hW6.out]; exact hb6'.drew
     have S4 : EngStep E e w e1 W6 := (S1.below N4).below N46
     have bR4 := bR.below N46 bR.lt
     refine hK.out _ _ (HSS.out _ S4.at' bR4) (fun hHeld => ?_)
     clear hK K hV6 hV6' hW6 b6' hb6' hs6
     try simp only [Act.put, zA, zB, zC, zD, zE, zF]
     have C5 := specUndoOf_any z ((e1.log.recs.length : Int) + 1) l W6 (rdz.below (N4.trans (N46.mono N4.size))) (short_rec hshz)
     have hs46 := b6.lt
     refine wpAnyH_ready (rs := [9]) (by kernel_rfl) (by simp) ?_
     refine AllReadyH.cons rfl (fun K hK => ?_) AllReadyH.nil
     go_simp
     refine C5.mono ?_
     clear C5
     rintro r w5 ⟨u, rfl, huv, ou, hb5⟩
     have S5 := S4.below hb5
     have bR5 := bR4.below hb5 bR4.lt
     have hs45 := hb5.size
     have b65 := b6.below hb5 b6.lt
     refine hK.out _ _ (HSS.out _ S5.at' bR5) (fun hHeld => ?_)
     clear hK K
     try simp only [Act.put, zA, zB, zC, zD, zE, zF]
     obtain ⟨w6, hw6, hww6, hs66, HT6, _, bU6⟩ := rec_out u _ rfl b65
     have hoffX : Off E e1 W4.heap.size := (S1.at'.below N4).new (Nat.le_refl _)
     have S6 : EngStep E e w e1 w6 := EngStep.put S5 hww6 hoffX (by omega)
     have bR6 := bR5.within hww6 (by omega)
     have ou6 : u.own w6 0 w6.heap.size := (ou.within hww6 (.inr (by omega))).widen (Nat.zero_le _) (by omega) (Nat.le_refl _)
     have huB : ∀ i ∈ u.blocks, W6.heap.size ≤ i ∧ i < w5.heap.size := fun i hi => ou.blocks_lt i hi
     have huE : ∀ i ∈ u.blocks, i ∉ e1.blocks := fun i hi hm1 => by have := (huB i hi).1; have := S1.at'.lt i hm1; omega
     have huN : E ∉ u.blocks := fun hi => by have := (huB E hi).1; have := S1.at'.box.lt; omega
     have huW : ∀ i ∈ u.blocks, w.heap.size ≤ i := fun i hi => by have := (huB i hi).1; omega
     have hXu : W4.heap.size ∉ u.blocks := fun hi => by have := (huB _ hi).1; omega
     have hRu : wr.heap.size ∉ u.blocks := fun hi => by have := (huB _ hi).1; omega
     have hw6' : Hid (w5.setCells W4.heap.size 0 u.cells.toArray.toList = w6) := hw6.out
     refine wpAnyH_ready (rs := [11]) (by kernel_rfl) (by simp) ?_
     refine AllReadyH.cons rfl (fun K hK => ?_) AllReadyH.nil
     rw [if_pos (by rfl)]
     refine wp_store_mid 39 (.tmp 7) (.tmp 42) rfl W4.heap.size 0 u.cells.toArray rfl rfl HT6.out (rec_info u) (rec_one u) ?_
     rw [hw6'.out]
     refine hK.out _ _ (HSS.out _ S6.at' bR6) (fun hHeld => ?_)
     clear hK K
     try simp only [Act.put, zA, zB, zC]
     refine wpAnyH_done (by kernel_rfl) ?_ _
     clear hHeld hw6' hw6 hww6 hs66 HT6 b6 b65 S5 bR5 S4 bR4 ou hb5
     generalize W4.heap.size = X at *
     have HUO := undo_oid z.v ((e1.log.recs.length : Int) + 1) (l : Int)
     rw [← huv.out] at HUO
     obtain ⟨od, hod, hod32⟩ := HUO
     have hod' : u.oid = (od : Int) := hod
     have HUS : Hid (ShortV u.v) := by rw [Hid, huv.out]; exact undo_short hshz
     have C6 := l7Log_any E e1 u w6 S6.at' ou6 huE huN (by omega) (by omega)
     have r6 := Box.range [] u.cells [] (by simpa using bU6)
     go_wp2_with (first | (guard_target = wpList _ _ _ (Oper.mk (some 44) _ _ _ _ _ :: _) _ _; refine wpList_load_mid rfl 39 (.tmp 7) rfl X 0 rfl u.cells _ r6 Tryz.underlying39 rfl (rec_info u) ?_) | fail)
     refine C6.mono ?_
     clear C6 r6
     rintro r w7 ⟨rfl, e7, he7, ha7, m7⟩
     have bU7 := m7.boxes bU6 hoffX hXu
     have bR7 := m7.boxes bR6 hoffR hRu
     have S7 : EngStep E e w e7 w7 := EngMore.step S6 m7 (fun i hi => huW i hi)
     have hok7 : e7.v.poolOk := by rw [he7.out]; exact log_ok _ hok _
     have hl7 : e7.log.recs.length = e1.log.recs.length + 1 := by rw [ha7.out.2.2]; simp
     obtain ⟨k7, hk7a, hk7b, _⟩ := fetch_seat e7.v hok7 (od / 4)
     have hfu : Fit [u.af] := fun y hy => by rw [List.mem_singleton.1 hy]; exact HUS.out.2.1
     have CA := l7Apply_any E e7 od u.af ((e1.log.recs.length : Int) + 1) w7 S7.at' hok7 hod32 (fun v e' hv hrecs _ => by
      have h1 := hv.own.log.each { u with lsn := (e1.log.recs.length : Int) + 1 } (by rw [hrecs, ha7.out.2.2]; simp)
      exact OwnO.reads h1.af) hfu ⟨k7, hk7a, hk7b⟩
     have x7 := bU7.cell 4 _ (show u.cells[4]? = some (.int .i64 u.oid) from rfl)
     rw [hod'] at x7
     have r7 : w7.rangeAt X 9 u.af.cells := by
      have h1 : Box w7 X ([.int .i64 u.lsn, .int .i64 u.tx, .int .i64 u.prev, .int .i64 u.kind, .int .i64 u.oid, .bool u.bf.v.has, .int .i64 u.bf.v.o.kind, .slice u.bf.aI u.bf.v.o.ints.length u.bf.cI, .slice u.bf.aR u.bf.v.o.refs.length u.bf.cR] ++ (u.af.cells ++ [.int .i64 u.next, .slice u.aL u.txs.length u.cL])) 39 := bU7
      exact Box.range _ _ _ h1
     have HE7 : Hid (e7.v = logV e1.v u.v) := he7.out
     clear he7 hk7a hk7b hfu
     go_wp2_with (first | (guard_target = wpList _ _ _ (Oper.mk (some 50) _ _ _ _ _ :: _) _ _; refine wpList_load_mid rfl 36 (.tmp 49) rfl X 9 rfl u.af.cells _ r7 Tryz.underlying36 rfl (slot_info u.af) ?_) | fail)
     refine CA.mono ?_
     clear CA r7 x7
     rintro r w8 ⟨⟨v8, rfl⟩, e8, he8, hr8, s8⟩
     have hoffR7 := m7.off bR6.lt hoffR hRu
     have bR8 := s8.boxes bR7 hoffR7
     have S8 := S7.trans s8
     have x8 := bR8.cell 2 _ (show z.cells[2]? = some (.int .i64 z.prev) from rfl)
     have HV8 : Hid (e8.v = applyV (logV e1.v (undoV z.v ((e1.log.recs.length : Int) + 1) l)) od (undoV z.v ((e1.log.recs.length : Int) + 1) l).af ((e1.log.recs.length : Int) + 1)) := by
      rw [Hid, he8.out, HE7.out, ← huv.out]
      rfl
     have HOD : Hid ((undoV z.v ((e1.log.recs.length : Int) + 1) l).oid.toNat = od) := by rw [Hid, ← huv.out, show u.v.oid = (od : Int) from hod, Int.toNat_natCast]
     obtain ⟨pv, hpv, hpvm⟩ := hprev
     rw [hpv] at x8
     have HG8 : Hid (e8.v.poolOk ∧ LogGood e8.v ∧ e8.txs.length = e.txs.length ∧ e8.holds = e.holds ∧ e8.log.recs.length = e1.log.recs.length + 1) := by
      refine ⟨?_, ?_, ?_, ?_, by rw [hr8.out]; exact hl7⟩
      ·rw [he8.out]
       exact apply_ok _ hok7 od hod32 _ (fun y hy => by rw [List.mem_singleton.1 hy]; exact HUS.out.2.1) _
      ·have e9 : e8.v.log.recs = e1.v.log.recs ++ [{ u.v with lsn := (e1.v.log.recs.length : Int) + 1 }] := by
        rw [he8.out, (apply_rest e7.v od u.af.v _).2.2.1, HE7.out]; rfl
       exact hgood.snoc e9 (by rw [huv.out]; exact undo_prev z.v _ l (by show l ≤ (e1.log.recs.map RecA.v).length; rw [List.length_map]; exact hll)) HUS.out
      ·rw [v_txs he8.out, (apply_rest e7.v od u.af.v _).1, HE7.out]; simp only [logV]; rw [lastV_len]; exact htx
      ·rw [v_holds he8.out, (apply_rest e7.v od u.af.v _).2.1, HE7.out]; exact hho
     have HR8 : Hid (undoLoop n e8.v pv ((e1.log.recs.length : Int) + 1) = R) := by
      rw [Hid, ← HUL.out, HV8.out, HOD.out, hpv]
     have hl8 := HG8.out.2.2.2.2
     clear he8 HE7 HV8 HOD S7 s8 bR7 bU7 m7 hok7 ha7 hod hod' hpv
     go_wp2_with fail
     go_roundg n
     case measure => omega
     case rel => exact ⟨e8, pv, e1.log.recs.length + 1, by go_num, by go_num, by omega, by omega, by omega, by omega, HG8.out.1, HG8.out.2.1, HG8.out.2.2.1, HG8.out.2.2.2.1, HR8, S8⟩
   ·have hkb : (z.kind == 1) = false := by simpa using hk1
    have HUL : Hid (undoLoop n e1.v z.prev l = R) := by
     have h1 := HUL0.out
     rw [if_neg (show ¬ z.v.kind = 1 from hk1)] at h1
     exact h1
    obtain ⟨pv, hpv, hpvm⟩ := hprev
    have y4 := bR.cell 2 _ (show z.cells[2]? = some (.int .i64 z.prev) from rfl)
    rw [hpv] at y4
    have HUL2 : Hid (undoLoop n e1.v pv l = R) := by rw [Hid, ← HUL.out, hpv]
    clear HUL0 HUL hk1 hpv
    go_wp2_with fail
    go_roundg n
    case measure => omega
    case rel => exact ⟨e1, pv, l, rfl, rfl, by omega, by omega, hll, by omega, hok, hgood, htx, hho, HUL2, S1.below N4⟩
end Go.Proofs.YtoboickdkednkaaGreatDoor
namespace Go.Proofs.YtoboickdkednkaaGreatDoor
open Go.RowKit
def SmallS (x : SlotV) : Prop := x.o.ints.length ≤ 10 ∧ x.o.refs.length ≤ 10
def SmallR (r : RecV) : Prop := SmallS r.bf ∧ SmallS r.af ∧ r.txs.length ≤ 10
structure Sound (e : EngV) : Prop where
 pool : e.poolOk
 good : LogGood e
 seats : ∀ s ∈ e.seats, ∀ x ∈ s.ss, SmallS x
 disk : ∀ p ∈ e.disk, ∀ x ∈ p.2, SmallS x
 recs : ∀ r ∈ e.log.recs, SmallR r
theorem smallNo : SmallS noS := ⟨by show 0 ≤ 10; omega, by show 0 ≤ 10; omega⟩
theorem small_fit {x : SlotV} (h : SmallS x) : FitV [x] := fun y hy => by rw [List.mem_singleton.1 hy]; exact ⟨by have := h.1; omega, by have := h.2; omega⟩
theorem small_short {r : RecV} (h : SmallR r) : ShortV r := ⟨⟨by have := h.1.1; omega, by have := h.1.2; omega⟩, ⟨by have := h.2.1.1; omega, by have := h.2.1.2; omega⟩, by have := h.2.2; omega⟩
theorem fetch_sound {e : EngV} (h : Sound e) (n : Nat) (h8 : n < 8) : Sound (fetchV e n).1 := by
 have hr := fetch_rest e n
 have hdm : e.disk.getD n (0, []) ∈ e.disk := by
  have hd : n < e.disk.length := by rw [h.pool.eight]; exact h8
  simp only [List.getD, List.getElem?_eq_getElem hd, Option.getD_some]; exact List.getElem_mem hd
 obtain ⟨hd, hhd, h3⟩ := h.pool.hand
 have key : (∀ s ∈ (fetchV e n).1.seats, ∀ x ∈ s.ss, SmallS x) ∧ (∀ p ∈ (fetchV e n).1.disk, ∀ x ∈ p.2, SmallS x) := by
  rcases seated_cases e.seats n with hs | ⟨k, hs, hk, _⟩
  ·rw [fetchV, if_neg (by rw [hs]; omega)]
   have hst : ∀ s ∈ (bringV e.seats e.hand.toNat ⟨n, (e.disk.getD n (0, [])).1, (e.disk.getD n (0, [])).2, false, true⟩).1, ∀ x ∈ s.ss, SmallS x := fun s hs1 => by
    rcases bring_mem _ _ _ s hs1 with h1 | ⟨s0, h0, _, e2⟩
    ·rw [h1]; exact h.disk _ hdm
    ·rw [e2]; exact h.seats s0 h0
   have hold := fun hw => bring_old e.seats e.hand.toNat ⟨n, (e.disk.getD n (0, [])).1, (e.disk.getD n (0, [])).2, false, true⟩ hw (by rw [hhd]; simpa using h3)
   simp only
   split
   ·next hw =>
    obtain ⟨s0, h0, _, e2⟩ := hold hw.1
    refine ⟨hst, fun p hp => ?_⟩
    simp only [writeV] at hp
    rcases List.mem_or_eq_of_mem_set hp with h1 | h1
    ·exact h.disk p h1
    ·rw [h1]; simp only; rw [e2]; exact h.seats s0 h0
   ·exact ⟨hst, h.disk⟩
  ·rw [fetchV, hs, if_pos (by omega), Int.toNat_natCast]
   have hkm : e.seats.getD k zeroStV ∈ e.seats := by simp only [List.getD, List.getElem?_eq_getElem hk, Option.getD_some]; exact List.getElem_mem hk
   refine ⟨fun s hs1 => ?_, h.disk⟩
   rcases List.mem_or_eq_of_mem_set hs1 with h1 | h1
   ·exact h.seats s h1
   ·rw [h1]; have := h.seats _ hkm; exact this
 exact ⟨fetch_ok e h.pool n h8, ⟨by rw [hr.2.2.1]; exact h.good.prev, by rw [hr.2.2.1]; exact h.good.short⟩, key.1, key.2, by rw [hr.2.2.1]; exact h.recs⟩
theorem log_sound {e : EngV} (h : Sound e) (r : RecV) (hp : ∃ p : Nat, r.prev = p ∧ p ≤ e.log.recs.length) (hs : SmallR r) : Sound (logV e r) := by
 refine ⟨log_ok _ h.pool r, h.good.snoc rfl hp (small_short hs), h.seats, h.disk, fun x hx => ?_⟩
 rcases List.mem_append.1 hx with h1 | h1
 ·exact h.recs x h1
 ·rw [List.mem_singleton.1 h1]; exact hs
theorem apply_sound {e : EngV} (h : Sound e) (o : Nat) (h32 : o < 32) (x : SlotV) (hx : SmallS x) (lsn : Int) : Sound (applyV e o x lsn) := by
 have hf := fetch_sound h (o / 4) (by omega)
 obtain ⟨k, hk, hkl, _⟩ := fetch_seat e h.pool (o / 4)
 have hkm : (fetchV e (o / 4)).1.seats.getD k zeroStV ∈ (fetchV e (o / 4)).1.seats := by simp only [List.getD, List.getElem?_eq_getElem hkl, Option.getD_some]; exact List.getElem_mem hkl
 refine ⟨apply_ok e h.pool o h32 x (small_fit hx) lsn, ⟨hf.good.prev, hf.good.short⟩, fun s hs => ?_, hf.disk, hf.recs⟩
 simp only [applyV, hk, Int.toNat_natCast] at hs
 rcases List.mem_or_eq_of_mem_set hs with h1 | h1
 ·exact hf.seats s h1
 ·rw [h1]
  intro y hy
  simp only [setSeatV] at hy
  rcases List.mem_or_eq_of_mem_set hy with h2 | h2
  ·exact hf.seats _ hkm y h2
  ·rw [h2]; exact hx
theorem upTo_sound {e : EngV} (h : Sound e) (n : Int) : Sound { e with log := e.log.upTo n } := ⟨⟨h.pool.len, h.pool.hand, h.pool.nos, h.pool.fitS, h.pool.eight, h.pool.fitD⟩, ⟨h.good.prev, h.good.short⟩, h.seats, h.disk, h.recs⟩
theorem ends_sound {e : EngV} (h : Sound e) (tx : Int) : Sound (endsV e tx) := ⟨⟨h.pool.len, h.pool.hand, h.pool.nos, h.pool.fitS, h.pool.eight, h.pool.fitD⟩, ⟨h.good.prev, h.good.short⟩, h.seats, h.disk, h.recs⟩
theorem recV_small (tx prev kind : Int) : SmallR (recV tx prev kind) := ⟨smallNo, smallNo, Nat.zero_le _⟩
theorem log_len (e : EngV) (r : RecV) : (logV e r).log.recs.length = e.log.recs.length + 1 := by simp [logV]
theorem commit_sound {e : EngV} (h : Sound e) (tx : Int) : Sound (commitV e tx) ∧ (commitV e tx).log.recs.length = e.log.recs.length + 2 := by
 obtain ⟨m, hm, hml⟩ := last_le tx e.log.recs e.log.recs.length
 have h1 := log_sound h (recV tx (lastOf e.log.recs tx) 2) ⟨m, hm, hml⟩ (recV_small _ _ _)
 have h2 := upTo_sound h1 ((e.log.recs.length : Int) + 1)
 have hl : ({ logV e (recV tx (lastOf e.log.recs tx) 2) with log := (logV e (recV tx (lastOf e.log.recs tx) 2)).log.upTo ((e.log.recs.length : Int) + 1) } : EngV).log.recs.length = e.log.recs.length + 1 := log_len e _
 have h3 := log_sound h2 (recV tx ((e.log.recs.length : Int) + 1) 5) ⟨e.log.recs.length + 1, rfl, by rw [hl]; exact Nat.le_refl _⟩ (recV_small _ _ _)
 refine ⟨ends_sound h3 tx, ?_⟩
 show (logV _ _).log.recs.length = _
 rw [log_len, hl]
theorem check_sound {e : EngV} (h : Sound e) (ht : e.txs.length ≤ 10) : Sound (checkV e) ∧ (checkV e).log.recs.length = e.log.recs.length + 1 := by
 have h1 := log_sound h (recCV (e.txs.filter (fun l => decide (0 < l.last)))) ⟨0, rfl, Nat.zero_le _⟩ ⟨smallNo, smallNo, Nat.le_trans (List.length_filter_le _ _) ht⟩
 exact ⟨upTo_sound h1 _, log_len e _⟩
theorem flush_sound {e : EngV} (h : Sound e) (n : Nat) : Sound (flushV e n) ∧ (flushV e n).log.recs.length = e.log.recs.length := by
 unfold flushV
 split
 ·next hc =>
  rcases seated_cases e.seats n with hs | ⟨k, hs, hk, _⟩
  ·rw [hs] at hc; exact absurd hc.1 (by omega)
  ·have hkm : e.seats.getD k zeroStV ∈ e.seats := by simp only [List.getD, List.getElem?_eq_getElem hk, Option.getD_some]; exact List.getElem_mem hk
   rw [hs, Int.toNat_natCast]
   refine ⟨⟨⟨by simp only [List.length_set]; exact h.pool.len, h.pool.hand, fun s hs1 => ?_, fun s hs1 => ?_, by simp only [writeV, List.length_set]; exact h.pool.eight, fun p hp => ?_⟩, ⟨h.good.prev, h.good.short⟩, fun s hs1 => ?_, fun p hp => ?_, h.recs⟩, rfl⟩
   ·rcases List.mem_or_eq_of_mem_set hs1 with h1 | h1
    ·exact h.pool.nos s h1
    ·rw [h1]; have := h.pool.nos _ hkm; exact this
   ·rcases List.mem_or_eq_of_mem_set hs1 with h1 | h1
    ·exact h.pool.fitS s h1
    ·rw [h1]; have := h.pool.fitS _ hkm; exact this
   ·simp only [writeV] at hp
    rcases List.mem_or_eq_of_mem_set hp with h1 | h1
    ·exact h.pool.fitD p h1
    ·rw [h1]; exact h.pool.fitS _ hkm
   ·rcases List.mem_or_eq_of_mem_set hs1 with h1 | h1
    ·exact h.seats s h1
    ·rw [h1]; have := h.seats _ hkm; exact this
   ·simp only [writeV] at hp
    rcases List.mem_or_eq_of_mem_set hp with h1 | h1
    ·exact h.disk p h1
    ·rw [h1]; exact h.seats _ hkm
 ·exact ⟨h, rfl⟩
theorem set_sound {e : EngV} (h : Sound e) (tx : Int) (o : Nat) (h32 : o < 32) (x : SlotV) (hx : SmallS x) (hprev : ∃ p : Nat, (e.txs.getD (liveOf e.txs tx).toNat zeroL).last = p ∧ p ≤ e.log.recs.length) : Sound (setV e tx o x) ∧ (setV e tx o x).log.recs.length = e.log.recs.length + 1 := by
 have hf := fetch_sound h (o / 4) (by omega)
 have hr := fetch_rest e (o / 4)
 obtain ⟨k, hk, hkl, _⟩ := fetch_seat e h.pool (o / 4)
 have hkm : (fetchV e (o / 4)).1.seats.getD k zeroStV ∈ (fetchV e (o / 4)).1.seats := by simp only [List.getD, List.getElem?_eq_getElem hkl, Option.getD_some]; exact List.getElem_mem hkl
 have hb : SmallS (((fetchV e (o / 4)).1.seats.getD (fetchV e (o / 4)).2.toNat zeroStV).ss.getD (o % 4) ⟨false, ⟨0, [], []⟩⟩) := by
  rw [hk, Int.toNat_natCast]
  simp only [List.getD]
  cases hq : ((fetchV e (o / 4)).1.seats[k]?.getD zeroStV).ss[o % 4]? with
  | none => exact ⟨Nat.zero_le _, Nat.zero_le _⟩
  | some y => exact hf.seats _ hkm y (by rw [← List.getD_eq_getElem?_getD] at hq; exact List.mem_of_getElem? hq)
 have h1 := log_sound hf (recSV tx (e.txs.getD (liveOf e.txs tx).toNat zeroL).last o (((fetchV e (o / 4)).1.seats.getD (fetchV e (o / 4)).2.toNat zeroStV).ss.getD (o % 4) ⟨false, ⟨0, [], []⟩⟩) x) (by rw [hr.2.2.1]; exact hprev) ⟨hb, hx, Nat.zero_le _⟩
 have h2 := apply_sound h1 o h32 x hx ((e.log.recs.length : Int) + 1)
 have hl2 : (applyV (logV (fetchV e (o / 4)).1 (recSV tx (e.txs.getD (liveOf e.txs tx).toNat zeroL).last o (((fetchV e (o / 4)).1.seats.getD (fetchV e (o / 4)).2.toNat zeroStV).ss.getD (o % 4) ⟨false, ⟨0, [], []⟩⟩) x)) o x ((e.log.recs.length : Int) + 1)).log.recs.length = e.log.recs.length + 1 := by
  rw [(apply_rest _ o x _).2.2.1, log_len, hr.2.2.1]
 unfold setV
 simp only
 split
 ·exact ⟨⟨⟨h2.pool.len, h2.pool.hand, h2.pool.nos, h2.pool.fitS, h2.pool.eight, h2.pool.fitD⟩, ⟨h2.good.prev, h2.good.short⟩, h2.seats, h2.disk, h2.recs⟩, hl2⟩
 ·exact ⟨h2, hl2⟩
theorem undo_small {r : RecV} {n p : Int} (h : SmallR r) : SmallR (undoV r n p) := by
 unfold undoV
 split
 ·exact ⟨smallNo, h.1, Nat.zero_le _⟩
 ·exact ⟨smallNo, smallNo, Nat.zero_le _⟩
theorem undoLoop_sound (n : Nat) : ∀ (e : EngV) (m l : Nat), Sound e → m ≤ e.log.recs.length → l ≤ e.log.recs.length → Sound (undoLoop n e m l).1 ∧ (undoLoop n e m l).1.log.recs.length ≤ e.log.recs.length + n ∧ (∃ l' : Nat, (undoLoop n e m l).2 = l' ∧ l' ≤ (undoLoop n e m l).1.log.recs.length) ∧ (undoLoop n e m l).1.holds = e.holds ∧ (undoLoop n e m l).1.txs.length = e.txs.length ∧ (undoLoop n e m l).1.next = e.next := by
 induction n with
 | zero => intro e m l h _ hl; exact ⟨h, Nat.le_refl _, ⟨l, rfl, hl⟩, rfl, rfl, rfl⟩
 | succ n ih =>
  intro e m l h hm hl
  rw [undoLoop]
  by_cases h0 : 0 < (m : Int)
  ·rw [if_pos h0]
   have hm1 : ((m : Int) - 1).toNat < e.log.recs.length := by omega
   have hmem : e.log.recs.getD ((m : Int) - 1).toNat zeroR.v ∈ e.log.recs := by simp only [List.getD, List.getElem?_eq_getElem hm1, Option.getD_some]; exact List.getElem_mem hm1
   obtain ⟨pv, hpv, hpvl⟩ := h.good.prev _ hm1
   simp only
   rw [hpv]
   split
   ·have hu := undo_small (n := (e.log.recs.length : Int) + 1) (p := l) (h.recs _ hmem)
    obtain ⟨od, hod, hod32⟩ := undo_oid (e.log.recs.getD ((m : Int) - 1).toNat zeroR.v) ((e.log.recs.length : Int) + 1) l
    have h1 := log_sound h _ (undo_prev _ ((e.log.recs.length : Int) + 1) l hl) hu
    have h2 := apply_sound h1 od hod32 _ hu.2.1 ((e.log.recs.length : Int) + 1)
    rw [hod, Int.toNat_natCast]
    have hlen : (applyV (logV e (undoV (e.log.recs.getD ((m : Int) - 1).toNat zeroR.v) ((e.log.recs.length : Int) + 1) l)) od (undoV (e.log.recs.getD ((m : Int) - 1).toNat zeroR.v) ((e.log.recs.length : Int) + 1) l).af ((e.log.recs.length : Int) + 1)).log.recs.length = e.log.recs.length + 1 := by
     rw [(apply_rest _ od _ _).2.2.1, log_len]
    have hi := ih _ pv (e.log.recs.length + 1) h2 (by rw [hlen]; omega) (by rw [hlen]; exact Nat.le_refl _)
    rw [hlen, (apply_rest _ od _ _).2.1, (apply_rest _ od _ _).1, (apply_rest _ od _ _).2.2.2, show ((e.log.recs.length + 1 : Nat) : Int) = (e.log.recs.length : Int) + 1 from by omega] at hi
    refine ⟨hi.1, by have := hi.2.1; omega, hi.2.2.1, hi.2.2.2.1, ?_, hi.2.2.2.2.2⟩
    have ht := hi.2.2.2.2.1
    simp only [logV, lastV_len] at ht
    exact ht
   ·have hi := ih e pv l h (by omega) hl
    exact ⟨hi.1, by have := hi.2.1; omega, hi.2.2⟩
  ·rw [if_neg h0]
   exact ⟨h, by show e.log.recs.length ≤ _; omega, ⟨l, rfl, hl⟩, rfl, rfl, rfl⟩
theorem abort_sound {e : EngV} (h : Sound e) (tx : Int) : Sound (abortV e tx) ∧ (abortV e tx).log.recs.length ≤ 2 * e.log.recs.length + 2 ∧ (abortV e tx).txs.length ≤ e.txs.length ∧ (abortV e tx).holds.length ≤ e.holds.length ∧ (abortV e tx).next = e.next := by
 obtain ⟨m, hm, hml⟩ := last_le tx e.log.recs e.log.recs.length
 have hm' : lastOf e.log.recs tx = (m : Int) := hm
 unfold abortV
 simp only
 rw [hm']
 have h1 := log_sound h (recV tx m 3) ⟨m, rfl, hml⟩ (recV_small _ _ _)
 have hl1 : (logV e (recV tx m 3)).log.recs.length = e.log.recs.length + 1 := log_len e _
 have hi := undoLoop_sound e.log.recs.length _ m (e.log.recs.length + 1) h1 (by rw [hl1]; omega) (by rw [hl1]; exact Nat.le_refl _)
 rw [hl1] at hi
 obtain ⟨hi1, hi2, ⟨l', hl', hll⟩, hi4, hi5, hi6⟩ := hi
 have e1 : ((e.log.recs.length + 1 : Nat) : Int) = (e.log.recs.length : Int) + 1 := by omega
 rw [e1] at hi1 hi2 hl' hll hi4 hi5 hi6
 rw [hl']
 have h2 := log_sound hi1 (recV tx l' 5) ⟨l', rfl, hll⟩ (recV_small _ _ _)
 refine ⟨ends_sound h2 tx, ?_, ?_, ?_, hi6⟩
 ·show (logV _ _).log.recs.length ≤ _
  rw [log_len]; omega
 ·refine Nat.le_trans (List.length_filter_le _ _) ?_
  show (lastV _ _ _).length ≤ _
  rw [lastV_len, hi5]
  show (lastV _ _ _).length ≤ _
  rw [lastV_len]
  exact Nat.le_refl _
 ·refine Nat.le_trans (List.length_filter_le _ _) ?_
  show (undoLoop _ _ _ _).1.holds.length ≤ _
  rw [hi4]
  exact Nat.le_refl _
end Go.Proofs.YtoboickdkednkaaGreatDoor