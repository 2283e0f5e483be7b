/- Several texts in one, in their order. -/
import Derived.Test.YtickiokdcbeefaaGreatDoorPFnLogsx23
import Derived.Test.YtickiokdcbeefaaGreatDoorPFnLogsx10
import Derived.Test.YtickiokdcbeefaaGreatDoorPFnLogsx15
import Derived.Test.YtickiokdcbeefaaGreatDoorPFnLogsx9
import Derived.Deep.RegionHeld3
import Derived.Deep.CutRange
/- What a fetch keeps, as values. -/
namespace Go.Proofs.YtickiokdcbeefaaGreatDoor
open Go.RowKit

theorem seatFrom_mem (no : Int) (ss : List SeatV) (k : Nat) (h : ∃ s ∈ ss, s.no = no) : seatFrom no ss k ≠ -1 := by
  induction ss generalizing k with
  | nil => obtain ⟨s, hs, _⟩ := h; cases hs
  | cons s r ih =>
    rw [seatFrom]
    by_cases hq : s.no = no
    · rw [if_pos hq]; omega
    · rw [if_neg hq]
      refine ih _ ?_
      obtain ⟨x, hx, he⟩ := h
      rcases List.mem_cons.1 hx with rfl | hx
      · exact absurd he hq
      · exact ⟨x, hx, he⟩
theorem seated_mem {ss : List SeatV} {no : Int} (h : ∃ s ∈ ss, s.no = no) : ∃ k : Nat, seatedOf ss no = k ∧ k < ss.length ∧ (ss.getD k zeroStV).no = no := by
  rcases seated_cases ss no with h1 | h1
  · exact absurd h1 (seatFrom_mem no ss 0 h)
  · exact h1
theorem bring_new (ss : List SeatV) (h : Nat) (new : SeatV) (hl : ss.length ≤ 3) (hh : h < 3) : new ∈ (bringV ss h new).1 := by
  unfold bringV
  split
  · simp
  · next hn =>
    have hk := (victim_hand 4 ss h hh).2
    have hlen := victim_len 4 ss h
    exact List.mem_iff_getElem.2 ⟨(victimV 4 ss h).2.2, by rw [List.length_set]; omega, by simp⟩
theorem bring_mem (ss : List SeatV) (h : Nat) (new : SeatV) : ∀ s ∈ (bringV ss h new).1, s = new ∨ ∃ s0 ∈ ss, s.no = s0.no ∧ s.ss = s0.ss := by
  unfold bringV
  split
  · intro s hs
    rcases List.mem_append.1 hs with hs | hs
    · exact .inr ⟨s, hs, rfl, rfl⟩
    · exact .inl (List.mem_singleton.1 hs)
  · intro s hs
    rcases List.mem_or_eq_of_mem_set hs with hs | hs
    · obtain ⟨s0, h0, e1, e2, _, _⟩ := victim_mem 4 ss h s hs
      exact .inr ⟨s0, h0, e1, e2⟩
    · exact .inl hs
theorem bring_hand (ss : List SeatV) (h : Nat) (new : SeatV) (hh : h < 3) : (bringV ss h new).2.1 < 3 := by
  unfold bringV
  split
  · exact hh
  · exact (victim_hand 4 ss h hh).1
theorem fetch_seat (e : EngV) (hp : e.poolOk) (n : Nat) : ∃ k : Nat, (fetchV e n).2 = k ∧ k < (fetchV e n).1.seats.length ∧ ((fetchV e n).1.seats.getD k zeroStV).no = n := by
  rcases seated_cases e.seats n with hs | ⟨k, hs, hk, hno⟩
  · rw [fetchV, if_neg (by rw [hs]; omega)]
    obtain ⟨h, hh, h3⟩ := hp.hand
    have hin : ∃ s ∈ (bringV e.seats e.hand.toNat ⟨n, (e.disk.getD n (0, [])).1, (e.disk.getD n (0, [])).2, false, true⟩).1, s.no = (n : Int) :=
      ⟨_, bring_new _ _ _ hp.len (by rw [hh]; simpa using h3), rfl⟩
    simp only
    split
    · exact seated_mem hin
    · exact seated_mem hin
  · rw [fetchV, hs, if_pos (by omega), Int.toNat_natCast]
    refine ⟨k, rfl, by rw [List.length_set]; exact hk, ?_⟩
    simp only [List.getD, List.getElem?_set_self hk, Option.getD_some]
    rw [← List.getD_eq_getElem?_getD]
    exact hno
theorem fetch_ok (e : EngV) (hp : e.poolOk) (n : Nat) (h8 : n < 8) : (fetchV e n).1.poolOk := by
  obtain ⟨h, hh, h3⟩ := hp.hand
  rcases seated_cases e.seats n with hs | ⟨k, hs, hk, hno⟩
  · rw [fetchV, if_neg (by rw [hs]; omega)]
    have hd : n < e.disk.length := by rw [hp.eight]; exact h8
    have hdm : e.disk.getD n (0, []) ∈ e.disk := by simp only [List.getD, List.getElem?_eq_getElem hd, Option.getD_some]; exact List.getElem_mem hd
    have hnos : ∀ s ∈ (bringV e.seats e.hand.toNat ⟨n, (e.disk.getD n (0, [])).1, (e.disk.getD n (0, [])).2, false, true⟩).1, (∃ m : Nat, s.no = m ∧ m < 8) ∧ FitV s.ss := fun s hs1 => by
      rcases bring_mem _ _ _ s hs1 with h1 | ⟨s0, h0, e1, e2⟩
      · rw [h1]; exact ⟨⟨n, rfl, h8⟩, hp.fitD _ hdm⟩
      · rw [e1, e2]; exact ⟨hp.nos s0 h0, hp.fitS s0 h0⟩
    have hlen := bring_len e.seats e.hand.toNat ⟨n, (e.disk.getD n (0, [])).1, (e.disk.getD n (0, [])).2, false, true⟩ hp.len
    have hhd := bring_hand e.seats e.hand.toNat ⟨n, (e.disk.getD n (0, [])).1, (e.disk.getD n (0, [])).2, false, true⟩ (by rw [hh]; simpa using h3)
    have hold := fun hw => bring_old e.seats e.hand.toNat ⟨n, (e.disk.getD n (0, [])).1, (e.disk.getD n (0, [])).2, false, true⟩ hw (by rw [hh]; simpa using h3)
    simp only
    split
    · next hw =>
      obtain ⟨s0, h0, e1, e2⟩ := hold hw.1
      refine ⟨hlen, ⟨_, rfl, hhd⟩, fun s hs1 => (hnos s hs1).1, fun s hs1 => (hnos s hs1).2, ?_, fun p hp1 => ?_⟩
      · simp only [writeV, List.length_set]; exact hp.eight
      · simp only [writeV] at hp1
        rcases List.mem_or_eq_of_mem_set hp1 with h1 | h1
        · exact hp.fitD p h1
        · rw [h1]; simp only; rw [e2]; exact hp.fitS s0 h0
    · exact ⟨hlen, ⟨_, rfl, hhd⟩, fun s hs1 => (hnos s hs1).1, fun s hs1 => (hnos s hs1).2, hp.eight, hp.fitD⟩
  · rw [fetchV, hs, if_pos (by omega), Int.toNat_natCast]
    have hkm : e.seats.getD k zeroStV ∈ e.seats := by simp only [List.getD, List.getElem?_eq_getElem hk, Option.getD_some]; exact List.getElem_mem hk
    refine ⟨by rw [List.length_set]; exact hp.len, ⟨h, hh, h3⟩, fun s hs1 => ?_, fun s hs1 => ?_, hp.eight, hp.fitD⟩
    · rcases List.mem_or_eq_of_mem_set hs1 with h1 | h1
      · exact hp.nos s h1
      · rw [h1]; have := hp.nos _ hkm; exact this
    · rcases List.mem_or_eq_of_mem_set hs1 with h1 | h1
      · exact hp.fitS s h1
      · rw [h1]; have := hp.fitS _ hkm; exact this
theorem fetch_rest (e : EngV) (n : Nat) : (fetchV e n).1.txs = e.txs ∧ (fetchV e n).1.holds = e.holds ∧ (fetchV e n).1.log.recs = e.log.recs ∧ (fetchV e n).1.next = e.next := by
  unfold fetchV
  split
  · exact ⟨rfl, rfl, rfl, rfl⟩
  · simp only
    split <;> exact ⟨rfl, rfl, rfl, rfl⟩
theorem log_ok (e : EngV) (hp : e.poolOk) (r : RecV) : (logV e r).poolOk := ⟨hp.len, hp.hand, hp.nos, hp.fitS, hp.eight, hp.fitD⟩
theorem apply_ok (e : EngV) (hp : e.poolOk) (o : Nat) (h32 : o < 32) (x : SlotV) (hx : FitV [x]) (lsn : Int) : (applyV e o x lsn).poolOk := by
  have hf := fetch_ok e hp (o / 4) (by omega)
  obtain ⟨k, hk, hkl, _⟩ := fetch_seat e hp (o / 4)
  have hkm : (fetchV e (o / 4)).1.seats.getD k zeroStV ∈ (fetchV e (o / 4)).1.seats := by simp only [List.getD, List.getElem?_eq_getElem hkl, Option.getD_some]; exact List.getElem_mem hkl
  unfold applyV
  simp only [hk, Int.toNat_natCast]
  refine ⟨by rw [List.length_set]; exact hf.len, hf.hand, fun s hs => ?_, fun s hs => ?_, hf.eight, hf.fitD⟩
  · rcases List.mem_or_eq_of_mem_set hs with h1 | h1
    · exact hf.nos s h1
    · rw [h1]; have := hf.nos _ hkm; exact this
  · rcases List.mem_or_eq_of_mem_set hs with h1 | h1
    · exact hf.fitS s h1
    · rw [h1]
      intro y hy
      simp only [setSeatV] at hy
      rcases List.mem_or_eq_of_mem_set hy with h2 | h2
      · exact hf.fitS _ hkm y h2
      · rw [h2]; exact hx x (by simp)
theorem apply_rest (e : EngV) (o : Nat) (x : SlotV) (lsn : Int) : (applyV e o x lsn).txs = e.txs ∧ (applyV e o x lsn).holds = e.holds ∧ (applyV e o x lsn).log.recs = e.log.recs ∧ (applyV e o x lsn).next = e.next := fetch_rest e (o / 4)
end Go.Proofs.YtickiokdcbeefaaGreatDoor

/- A transaction sets an object: the walk of spec.l7Set. -/
namespace Go.Proofs.YtickiokdcbeefaaGreatDoor
open Go.RowKit
attribute [local go_sem ↓] Go.wp_at_zero Go.wp_at_succ

def recSV (tx prev oid : Int) (b a : SlotV) : RecV := ⟨0, tx, prev, 1, oid, b, a, 0, []⟩
def setV (e : EngV) (tx : Int) (o : Nat) (x : SlotV) : EngV :=
  let f := fetchV e (o / 4)
  let prev := (e.txs.getD (liveOf e.txs tx).toNat zeroL).last
  let e2 := logV f.1 (recSV tx prev o ((f.1.seats.getD f.2.toNat zeroStV).ss.getD (o % 4) ⟨false, ⟨0, [], []⟩⟩) x)
  let e3 := applyV e2 o x ((e.log.recs.length : Int) + 1)
  if holdFrom o e3.holds = 0 then { e3 with holds := e3.holds ++ [⟨tx, o⟩] } else e3
/-- The slot j of a seat. -/
def SeatA.slot (s : SeatA) (j : Nat) : SlotA := match j with
  | 0 => s.s0
  | 1 => s.s1
  | 2 => s.s2
  | _ => s.s3
theorem slot_mem (s : SeatA) (j : Nat) (hj : j < 4) : s.slot j ∈ s.ss := by
  match j, hj with
  | 0, _ => simp [SeatA.slot, SeatA.ss]
  | 1, _ => simp [SeatA.slot, SeatA.ss]
  | 2, _ => simp [SeatA.slot, SeatA.ss]
  | 3, _ => simp [SeatA.slot, SeatA.ss]
theorem slot_v (s : SeatA) (j : Nat) (hj : j < 4) : (s.slot j).v = s.v.ss.getD j ⟨false, ⟨0, [], []⟩⟩ := by
  match j, hj with
  | 0, _ => rfl
  | 1, _ => rfl
  | 2, _ => rfl
  | 3, _ => rfl
theorem slot_range {w : World} {g b : Nat} {s : SeatA} (h : w.rangeAt g b s.cells) (j : Nat) (hj : j < 4) : w.rangeAt g (b + 1 + 1 + j * 4) (s.slot j).cells := by
  intro i v hv
  have hi : i < 4 := (List.getElem?_eq_some_iff.1 hv).1
  have h1 := h (2 + j * 4 + i) v (by
    match j, hj with
    | 0, _ => match i, hi with
      | 0, _ => exact hv
      | 1, _ => exact hv
      | 2, _ => exact hv
      | 3, _ => exact hv
    | 1, _ => match i, hi with
      | 0, _ => exact hv
      | 1, _ => exact hv
      | 2, _ => exact hv
      | 3, _ => exact hv
    | 2, _ => match i, hi with
      | 0, _ => exact hv
      | 1, _ => exact hv
      | 2, _ => exact hv
      | 3, _ => exact hv
    | 3, _ => match i, hi with
      | 0, _ => exact hv
      | 1, _ => exact hv
      | 2, _ => exact hv
      | 3, _ => exact hv)
  rw [show b + 1 + 1 + j * 4 + i = b + (2 + j * 4 + i) by omega]
  exact h1
theorem SlotA.own_below {w w' : World} {lo hi : Nat} {s : SlotA} (h : s.own w lo hi) (hb : Below w.heap.size w w') : s.own w' lo hi := OwnO.below h hb
theorem slot_info (s : SlotA) : (Tryz.prog.info? 39).map (·.size) = some s.cells.length := by show _ = some 4; kernel_rfl
theorem slot_out {w : World} {C : Nat} (q : SlotA) (old : List Value) (ho : old.length = 4) (bC : Box w C old 39) :
    ∃ WF, Hid (w.setCells C 0 q.cells = WF) ∧ Within C (C + 1) w WF ∧ WF.heap.size = w.heap.size ∧ Hid (w.there C 0 q.cells.toArray.size) ∧ Box WF C q.cells 39 := by
  obtain ⟨WF, hWF, bF, hwF, hsF⟩ := range_fill [] old q.cells [] (by simpa using bC) (by rw [ho]; rfl)
  exact ⟨WF, hWF, hwF, hsF, bC.there 0 _ (by rw [ho]; show 0 + 4 ≤ 4; decide), by simpa using bF⟩
theorem run_next {P : Program} {w w' : World} {m : Sem Value} {v : Value} (h : m.run P w = .ok v w') : (do let r ← m; pure (Next.value r) : Sem Next).run P w = .ok (.value v) w' := by simp only [Sem.run_bind, h, Result.andThen_ok, Sem.run_pure]
set_option maxHeartbeats 1000000 in
set_option maxRecDepth 100000 in
theorem run_buildS (w : World) (tx prev oid : Int) (b a : SlotA) : (Instr.build 42 #[(1, Value.int .i64 tx), (2, Value.int .i64 prev), (3, Value.int .i64 1), (4, Value.int .i64 oid), (5, Value.agg b.cells.toArray), (6, Value.agg a.cells.toArray)]).run Tryz.prog w = .ok (.agg (RecA.cells ⟨0, tx, prev, 1, oid, b, a, 0, [], none, 0⟩).toArray) w := run_build w _ _ _ (by kernel_rfl)

theorem EngStep.touch_trans {E : Nat} {e e' : EngA} {w w' u : World} (s : EngStep E e w e' w') (t : Touch (E :: e'.blocks) w' u) : Touch (E :: e.blocks) w u :=
  ⟨t.os.trans s.touch.os, t.tape.trans s.touch.tape, t.output.trans s.touch.output, Nat.le_trans s.size t.size, fun k hk hn => (t.block k (Nat.lt_of_lt_of_le hk s.size) (fun h => by
    rcases List.mem_cons.1 h with h | h
    · exact hn (by simp [h])
    · rcases s.fresh k h with h | h
      · exact hn (List.mem_cons_of_mem _ h)
      · omega)).trans (s.touch.block k hk hn)⟩
/-- Behind an append to what is held: the slice stored. -/
theorem EngStep.holdsStep {E : Nat} {e e1 : EngA} {w w1 wa w2 : World} {ys : List HoldV} {a' : Option Addr} {c' : Nat} (s : EngStep E e w e1 w1) (hA : Below w1.heap.size w1 wa) (ho : OwnH w2 0 w2.heap.size a' c' ys) (hg : wa.grownBy w2 (Value.slice e1.aH e1.holds.length e1.cH).ownBlock)
    (hf : ∀ k, (Value.slice a' ys.length c').ownBlock = some k → (Value.slice e1.aH e1.holds.length e1.cH).ownBlock = some k ∨ k = wa.heap.size) :
    ∃ W, Hid (w2.setCell ⟨E, 141, none⟩ (.slice a' ys.length c') = W) ∧ EngStep E e w (e1.withHolds ys a' c') W ∧ w2.cell? ⟨E, 141, none⟩ = some (.slice e1.aH e1.holds.length e1.cH) ∧ w2.frozen? ⟨E, 141, none⟩ = false := by
  have a1 := s.at'.below hA
  have t2 : Touch (rowOf e1.aH e1.holds.length e1.cH) wa w2 := Touch.of_grown hg (fun k hk => Option.mem_toList.2 hk)
  have hE : E ∉ rowOf e1.aH e1.holds.length e1.cH := fun h => s.at'.off (EngA.mem_holds h)
  have bx := a1.box.touch t2 hE
  obtain ⟨W, hW, b, hw, hs⟩ := box_set bx (136 + 5) (.slice a' ys.length c')
  rw [EngA.cells_set a1.shape] at b
  have tW : Touch [E] w2 W := ⟨hw.os, hw.tape, hw.output, hw.size, fun k hk hn => hw.block k hk (fun hh => hn (by simp; omega))⟩
  have hEn : E ∉ rowOf a' ys.length c' := fun h => (hf E (Option.mem_toList.1 h)).elim (fun h1 => hE (Option.mem_toList.2 h1)) (fun h1 => by have := a1.box.lt; omega)
  have oW : OwnH W 0 W.heap.size a' c' ys := (ho.touch tW (fun k hk hk' => hEn (by rw [← List.mem_singleton.1 hk']; exact Option.mem_toList.2 hk))).widen (Nat.le_refl _) (Nat.le_of_eq hs.symm) (Nat.le_refl _)
  have st : EngStep E e1 wa (e1.withHolds ys a' c') W := a1.held ys a' c' b oW ((t2.mono (fun k hk => List.mem_cons_of_mem _ hk)).trans (tW.mono (by simp))) (fun k hk => (hf k (Option.mem_toList.1 hk)).imp (fun h => Option.mem_toList.2 h) (fun h => by omega))
  exact ⟨W, hW, s.trans (EngStep.after hA st), EngA.cell_at a1.shape bx 5 _ rfl, bx.frozen _⟩
set_option maxHeartbeats 4000000 in
set_option maxRecDepth 100000 in
theorem l7Set_any (E : Nat) (e : EngA) (tx : Int) (o : Nat) (s : SlotA) (w : World) (h : EngAt w E e) (hp : e.v.poolOk) (h32 : o < 32) (hr : ∀ u, Touch (E :: e.blocks) w u → s.reads u) (hl : Fit [s]) (hlen : e.log.recs.length + 1 ≤ 68719476736) (hT : e.txs.length ≤ 68719476736) (hH : e.holds.length + 1 ≤ 68719476736) (hlive : 0 ≤ liveOf e.txs tx) :
    Calls Tryz.prog 115 #[.pointer (some ⟨E, 0, none⟩), .int .i64 tx, .int .i64 o, .agg s.cells.toArray] w fun r w' => (∃ v, r = .returned v) ∧ ∃ e', Hid (e'.v = setV e.v tx o s.v) ∧ EngStep E e w e' w' := by
  obtain ⟨W, hW, b0, hbW, hsW⟩ := boxes1 w s.cells 39
  have a1 := h.below hbW
  have hoff : Off E e w.heap.size := h.new (Nat.le_refl _)
  have C' : Calls Tryz.prog 113 #[.pointer (some ⟨E, 0, none⟩), .int .i64 ((o : Int) / 4)] W fun r w' => ∃ (e' : EngA) (k : Int), r = .returned (.int .i64 k) ∧ Hid (fetchV e.v (o / 4) = (e'.v, k)) ∧ Hid (e'.log.recs = e.log.recs) ∧ EngStep E e W e' w' := by
    rw [show (o : Int) / 4 = ((o / 4 : Nat) : Int) from by omega]; exact l7Fetch_any E e (o / 4) W a1 hp (by omega)
  obtain ⟨k, hk0, hkl, _⟩ := fetch_seat e.v hp (o / 4)
  have hok := fetch_ok e.v hp (o / 4) (by omega)
  obtain ⟨ft, fh, fl, _⟩ := fetch_rest e.v (o / 4)
  go_enter Tryz.func115, Tryz.ntmps115
  go_upto_region 1 with fail
  rw [hW.out]
  clear hW hsW
  go_wp2_with fail
  refine C'.mono ?_
  clear C'
  rintro r w2 ⟨e1, k1, rfl, hf, hl1, s1⟩
  rw [hf.out] at hk0 hkl hok ft fh fl
  simp only at hk0 hkl hok ft fh fl
  subst hk0
  have hk : k < e1.seats.length := by simpa [EngA.v] using hkl
  have HTX : Hid (e1.txs = e.txs) := ft
  have HHX : Hid (e1.holds = e.holds) := fh
  have b2 := s1.boxes b0 hoff
  have S1 : EngStep E e w e1 w2 := EngStep.after hbW s1
  have hoff1 := s1.off b0.lt hoff
  have hs1 := S1.size
  have hlt2 : w.heap.size < w2.heap.size := b2.lt
  have a2 := s1.at'
  obtain ⟨g, hg⟩ : ∃ g, e1.aS = some ⟨g, 0, none⟩ := by
    rcases a2.own.pool.row.2 with ⟨_, h0⟩ | ⟨g, cap', cur, hv, _⟩
    · omega
    · simp only [Value.slice.injEq] at hv; exact ⟨g, hv.1⟩
  have x0 : w2.cell? ⟨E, 136, none⟩ = some (.slice (some ⟨g, 0, none⟩) e1.seats.length e1.cS) := by rw [← hg]; exact EngA.cell_at a2.shape a2.box 0 _ rfl
  have ho := a2.own.pool
  rw [hg] at ho
  obtain ⟨j, hj⟩ : ∃ j : Nat, Hid (o % 4 = j) := ⟨_, rfl⟩
  have hj4 : j < 4 := by rw [← hj.out]; omega
  have r2 := slot_range (row_seat ho.row rfl k hk).1 j hj4
  have hmem := seatD_mem e1.seats k hk
  have oz := (ho.each _ hmem).each _ (slot_mem (e1.seats.getD k zeroSt) j hj4)
  have hfz : Fit [(e1.seats.getD k zeroSt).slot j] := fun y hy => by
    rw [List.mem_singleton.1 hy]
    exact hok.fitS (e1.seats.getD k zeroSt).v (List.mem_map_of_mem hmem) _ (List.mem_map_of_mem (slot_mem _ j hj4))
  have HBV : Hid (((e1.seats.getD k zeroSt).slot j).v = ((e1.v.seats.getD k zeroStV).ss.getD (o % 4) ⟨false, ⟨0, [], []⟩⟩)) := by
    rw [Hid, slot_v _ _ hj4, hj.out, show e1.v.seats = e1.seats.map SeatA.v from rfl, seatV_at]
  obtain ⟨y, hy⟩ : ∃ y, Hid ((e1.seats.getD k zeroSt).slot j = y) := ⟨_, rfl⟩
  rw [hy.out] at r2 oz hfz HBV
  have C2 := l3CopySlot_own y w2 (OwnO.reads oz) (hfz y (by simp)).1 (hfz y (by simp)).2
  have hkk : (k : Int) < (e1.seats.length : Int) := by omega
  have hki : (0 : Int) ≤ (k : Int) := by omega
  have ej : (o : Int) % 4 = (j : Int) := by have := hj.out; omega
  have hj4' : (j : Int) < 4 := by omega
  have hj0 : (0 : Int) ≤ (j : Int) := by omega
  clear ho oz hfz hmem hg hkl ft fh fl
  go_wp2_with (first | (guard_target = wpList _ _ _ (Oper.mk (some 27) _ _ _ _ _ :: _) _ _; refine wpList_load_mid rfl 39 (.tmp 26) rfl g (k * 20 + 1 + 1 + j * 4) rfl y.cells _ r2 Tryz.underlying39 rfl (slot_info y) ?_) | fail)
  refine C2.mono ?_
  clear C2 r2 x0
  rintro r w3 ⟨q, rfl, hqv, oq, hb3⟩
  have hs3 := hb3.size
  obtain ⟨W4, hW4, b4', hb4, hs4⟩ := boxes1 w3 zeroS.cells 39
  obtain ⟨W5, hW5, hw5, hs5, HT5, b5⟩ := slot_out q _ rfl b4'
  have hW4' : Hid (w3.alloc (.cells #[.bool false, .int .i64 0, .slice none 0 0, .slice none 0 0] 39) = W4) := hW4.out
  have hW5' : Hid (W4.setCells w3.heap.size 0 q.cells.toArray.toList = W5) := hW5.out
  have N35 : Below w3.heap.size w3 W5 := hb4.trans (hw5.below (Nat.le_refl _) (by omega))
  have N25 : Below w2.heap.size w2 W5 := hb3.trans (N35.mono hs3)
  have S5 := S1.below N25
  have b25 := b2.below N25 b2.lt
  have oq5 := SlotA.own_below oq N35
  have hlt5 := b5.lt
  have HO5 := slot_one q
  have hs25 := N25.size
  clear hW4 hW5 hs4 hs5 hw5 hb4 b4' ej
  go_upto_region 3 with (first | (guard_target = wpList _ _ _ (Oper.mk none (Op.store _ (Operand.tmp 9) _) _ _ _ _ :: _) _ _; refine wpList_store_mid rfl 39 (.tmp 9) (.tmp 28) rfl w3.heap.size 0 q.cells.toArray rfl rfl (by rw [hW4'.out]; exact HT5.out) (slot_info q) HO5 ?_; rw [hW4'.out, hW5'.out]) | fail)
  clear hW4' hW5' HT5 HO5
  simp only [Act.put]
  obtain ⟨kT, hkT, hkTl⟩ : ∃ kT : Nat, liveOf e1.txs tx = kT ∧ kT < e1.txs.length := by
    rw [HTX.out]
    rcases live_cases e.txs tx with h1 | h1
    · omega
    · exact h1
  obtain ⟨gT, hgT⟩ : ∃ gT, e1.aT = some ⟨gT, 0, none⟩ := by
    rcases S5.at'.own.txs.1.2 with ⟨_, h0⟩ | ⟨g', cap', cur, hv, _⟩
    · omega
    · simp only [Value.slice.injEq] at hv; exact ⟨g', hv.1⟩
  obtain ⟨lst, hlst⟩ : ∃ lst, Hid ((e1.txs.getD kT zeroL).last = lst) := ⟨_, rfl⟩
  have ND : Below W5.heap.size W5 W5.drew := (Below.refl _ _).drew
  have S6 := S5.below ND
  have b16 := b25.below ND b25.lt
  have b96 := b5.below ND b5.lt
  have HSB : Hid (∀ u, u.cell? ⟨E, 140, none⟩ = some (.slice (some ⟨gT, 0, none⟩) e1.txs.length e1.cT) → Box u w.heap.size s.cells 39 → Box u w3.heap.size q.cells 39 → u.cell? ⟨E, 140, none⟩ = some (.slice (some ⟨gT, 0, none⟩) e1.txs.length e1.cT) ∧ u.rangeAt w.heap.size 0 s.cells ∧ u.rangeAt w3.heap.size 0 q.cells) := fun u h1 h2 h3 => ⟨h1, Box.range [] s.cells [] (by simpa using h2), Box.range [] q.cells [] (by simpa using h3)⟩
  have HTC : Hid (∀ u, EngAt u E e1 → u.cell? ⟨E, 140, none⟩ = some (.slice (some ⟨gT, 0, none⟩) e1.txs.length e1.cT) ∧ u.cell? ⟨gT, kT * 3 + 1, none⟩ = some (.int .i64 lst)) := fun u hu => ⟨by rw [← hgT]; exact EngA.cell_at hu.shape hu.box 4 _ rfl, by
    have h1 := hu.own.txs.1
    rw [hgT] at h1
    rw [h1.cellAt (kT * 3 + 1) (by omega), cellsL_at e1.txs kT 1 hkTl (by omega), ← hlst.out]
    rfl⟩
  have HIE : Hid ((Tryz.prog.info? 105).map (·.size) = some e1.cells.length) := by rw [Hid, EngA.cells_len S5.at'.shape]; exact Tryz.infoEng
  have hkTi : (kT : Int) < (e1.txs.length : Int) := by omega
  have hkT0 : (0 : Int) ≤ (kT : Int) := by omega
  have HFV : Hid (fetchV e.v (o / 4) = (e1.v, (k : Int))) := hf.out
  clear hf hlive
  refine wp_region_held_drew (S := fun w' => w'.cell? ⟨E, 140, none⟩ = some (.slice (some ⟨gT, 0, none⟩) e1.txs.length e1.cT) ∧ w'.rangeAt w.heap.size 0 s.cells ∧ w'.rangeAt w3.heap.size 0 q.cells) (by kernel_rfl) ?_ (fun hHeld => ?_)
  · exact HSB.out _ (HTC.out _ S6.at').1 b16 b96
  refine wpAnyH_take (i := 0) (v := .pointer (some ⟨E, 0, none⟩)) rfl (by kernel_rfl) (by kernel_rfl) (by kernel_rfl) (fun _ _ _ h => h) (Or.inl ⟨by rfl, ?_⟩) hHeld ?_
  · intro w' hSw
    go_simp <;> rfl
  try simp only [Act.put, List.getElem_toArray, List.getElem_cons_zero, List.setIfInBounds_toArray, List.set_cons_zero, List.set_cons_succ]
  refine wpAnyH_take (i := 1) (v := .int .i64 tx) rfl (by kernel_rfl) (by kernel_rfl) (by kernel_rfl) (fun _ _ _ h => h) (Or.inl ⟨by rfl, ?_⟩) hHeld ?_
  · intro w' hSw
    go_simp <;> rfl
  try simp only [Act.put, List.getElem_toArray, List.getElem_cons_zero, List.getElem_cons_succ, List.setIfInBounds_toArray, List.set_cons_zero, List.set_cons_succ]
  refine wpAnyH_take (i := 2) (v := .pointer (some ⟨E, 0, none⟩)) rfl (by kernel_rfl) (by kernel_rfl) (by kernel_rfl) (fun _ _ _ h => h) (Or.inl ⟨by rfl, ?_⟩) hHeld ?_
  · intro w' hSw
    go_simp <;> rfl
  try simp only [Act.put, List.getElem_toArray, List.getElem_cons_zero, List.getElem_cons_succ, List.setIfInBounds_toArray, List.set_cons_zero, List.set_cons_succ]
  refine wpAnyH_take (i := 3) (v := .pointer (some ⟨E, 0, none⟩)) rfl (by kernel_rfl) (by kernel_rfl) (by kernel_rfl) (fun _ _ _ h => h) (Or.inl ⟨by rfl, ?_⟩) hHeld ?_
  · intro w' hSw
    go_simp <;> rfl
  try simp only [Act.put, List.getElem_toArray, List.getElem_cons_zero, List.getElem_cons_succ, List.setIfInBounds_toArray, List.set_cons_zero, List.set_cons_succ]
  refine wpAnyH_take (i := 4) (v := .pointer (some ⟨E, 140, none⟩)) rfl (by kernel_rfl) (by kernel_rfl) (by kernel_rfl) (fun _ _ _ h => h) (Or.inl ⟨by rfl, ?_⟩) hHeld ?_
  · intro w' hSw
    go_simp <;> rfl
  try simp only [Act.put, List.getElem_toArray, List.getElem_cons_zero, List.getElem_cons_succ, List.setIfInBounds_toArray, List.set_cons_zero, List.set_cons_succ]
  refine wpAnyH_take (i := 5) (v := .slice (some ⟨gT, 0, none⟩) e1.txs.length e1.cT) rfl (by kernel_rfl) (by kernel_rfl) (by kernel_rfl) (fun _ _ _ h => h) (Or.inl ⟨by rfl, ?_⟩) hHeld ?_
  · intro w' hSw
    have hx := hSw.1
    go_simp <;> rfl
  try simp only [Act.put, List.getElem_toArray, List.getElem_cons_zero, List.getElem_cons_succ, List.setIfInBounds_toArray, List.set_cons_zero, List.set_cons_succ]
  refine wpAnyH_take (i := 6) (v := .pointer (some ⟨E, 0, none⟩)) rfl (by kernel_rfl) (by kernel_rfl) (by kernel_rfl) (fun _ _ _ h => h) (Or.inl ⟨by rfl, ?_⟩) hHeld ?_
  · intro w' hSw
    go_simp <;> rfl
  try simp only [Act.put, List.getElem_toArray, List.getElem_cons_zero, List.getElem_cons_succ, List.setIfInBounds_toArray, List.set_cons_zero, List.set_cons_succ]
  refine wpAnyH_take (i := 7) (v := .pointer (some ⟨E, 0, none⟩)) rfl (by kernel_rfl) (by kernel_rfl) (by kernel_rfl) (fun _ _ _ h => h) (Or.inl ⟨by rfl, ?_⟩) hHeld ?_
  · intro w' hSw
    go_simp <;> rfl
  try simp only [Act.put, List.getElem_toArray, List.getElem_cons_zero, List.getElem_cons_succ, List.setIfInBounds_toArray, List.set_cons_zero, List.set_cons_succ]
  refine wpAnyH_take (i := 9) (v := .int .i64 tx) rfl (by kernel_rfl) (by kernel_rfl) (by kernel_rfl) (fun _ _ _ h => h) (Or.inl ⟨by rfl, ?_⟩) hHeld ?_
  · intro w' hSw
    go_simp <;> rfl
  try simp only [Act.put, List.getElem_toArray, List.getElem_cons_zero, List.getElem_cons_succ, List.setIfInBounds_toArray, List.set_cons_zero, List.set_cons_succ]
  refine wpAnyH_take (i := 15) rfl (by kernel_rfl) (by kernel_rfl) (by kernel_rfl) (fun _ _ _ h => h) (yieldsIf_load_mid (by rfl) _ _ rfl _ _ rfl q.cells _ (fun _ h => h.2.2) Tryz.underlying39 rfl (slot_info q)) hHeld ?_
  try simp only [Act.put, List.getElem_toArray, List.getElem_cons_zero, List.getElem_cons_succ, List.setIfInBounds_toArray, List.set_cons_zero, List.set_cons_succ]
  refine wpAnyH_take (i := 16) rfl (by kernel_rfl) (by kernel_rfl) (by kernel_rfl) (fun _ _ _ h => h) (yieldsIf_load_mid (by rfl) _ _ rfl _ _ rfl s.cells _ (fun _ h => h.2.1) Tryz.underlying39 rfl (slot_info s)) hHeld ?_
  try simp only [Act.put, List.getElem_toArray, List.getElem_cons_zero, List.getElem_cons_succ, List.setIfInBounds_toArray, List.set_cons_zero, List.set_cons_succ]
  refine wpAnyH_take (i := 14) (v := .int .i64 o) rfl (by kernel_rfl) (by kernel_rfl) (by kernel_rfl) (fun _ _ _ h => h) (Or.inl ⟨by rfl, ?_⟩) hHeld ?_
  · intro w' hSw
    go_simp <;> rfl
  try simp only [Act.put, List.getElem_toArray, List.getElem_cons_zero, List.getElem_cons_succ, List.setIfInBounds_toArray, List.set_cons_zero, List.set_cons_succ]
  have C6 := l7Live_any e1 S6.at'.shape tx W5.drew S6.at'.own.txs.reads (by rw [HTX.out]; omega)
  rw [hkT] at C6
  have r6 : W5.drew.rangeAt E 0 e1.cells := Box.range [] e1.cells [] (by simpa using S6.at'.box)
  refine wpAnyH_ready (rs := [8]) (by kernel_rfl) (by simp) ?_
  refine AllReadyH.cons rfl (fun K hK => ?_) AllReadyH.nil
  rw [if_pos (by rfl)]
  refine wp_load_mid 105 (.tmp 36) rfl E 0 rfl e1.cells _ r6 Tryz.underlying105 rfl HIE.out ?_
  refine hK.out _ _ (hHeld) (fun hHeld => ?_)
  clear hK K
  try simp only [Act.put, List.getElem_toArray, List.getElem_cons_zero, List.getElem_cons_succ, List.setIfInBounds_toArray, List.set_cons_zero, List.set_cons_succ]
  refine wpAnyH_ready (rs := [10]) (by kernel_rfl) (by simp) ?_
  refine AllReadyH.cons rfl (fun K hK => ?_) AllReadyH.nil
  go_simp
  refine C6.mono ?_
  clear C6 r6
  rintro r w7 ⟨rfl, hb7⟩
  have S7 := S6.below hb7
  have b17 := b16.below hb7 b16.lt
  have b97 := b96.below hb7 b96.lt
  refine hK.out _ _ (HSB.out _ (HTC.out _ S7.at').1 b17 b97) (fun hHeld => ?_)
  clear hK K
  try simp only [Act.put, List.getElem_toArray, List.getElem_cons_zero, List.getElem_cons_succ, List.setIfInBounds_toArray, List.set_cons_zero, List.set_cons_succ]
  refine wpAnyH_take (i := 11) (v := .pointer (some ⟨gT, kT * 3, none⟩)) rfl (by kernel_rfl) (by kernel_rfl) (by kernel_rfl) (fun _ _ _ h => h) (Or.inl ⟨by rfl, ?_⟩) hHeld ?_
  · intro w' hSw
    go_simp <;> rfl
  try simp only [Act.put, List.getElem_toArray, List.getElem_cons_zero, List.getElem_cons_succ, List.setIfInBounds_toArray, List.set_cons_zero, List.set_cons_succ]
  refine wpAnyH_take (i := 12) (v := .pointer (some ⟨gT, kT * 3 + 1, none⟩)) rfl (by kernel_rfl) (by kernel_rfl) (by kernel_rfl) (fun _ _ _ h => h) (Or.inl ⟨by rfl, ?_⟩) hHeld ?_
  · intro w' hSw
    go_simp <;> rfl
  try simp only [Act.put, List.getElem_toArray, List.getElem_cons_zero, List.getElem_cons_succ, List.setIfInBounds_toArray, List.set_cons_zero, List.set_cons_succ]
  have hfs := hl s (by simp)
  have C7 := l3CopySlot_own s w7 (hr w7 S7.touch) hfs.1 hfs.2
  have hs57 : W5.heap.size ≤ w7.heap.size := hb7.size
  refine wpAnyH_ready (rs := [13, 17]) (by kernel_rfl) (by simp) ?_
  refine AllReadyH.cons rfl (fun K hK => ?_) (AllReadyH.cons rfl (fun K hK => ?_) AllReadyH.nil)
  · have z7 := (HTC.out _ S7.at').2
    go_simp
    refine hK.out _ _ (hHeld) (fun hHeld => ?_)
    clear hK K
    try simp only [Act.put, List.getElem_toArray, List.getElem_cons_zero, List.getElem_cons_succ, List.setIfInBounds_toArray, List.set_cons_zero, List.set_cons_succ]
    clear z7
    refine wpAnyH_ready (rs := [17]) (by kernel_rfl) (by simp) ?_
    refine AllReadyH.cons rfl (fun K hK => ?_) AllReadyH.nil
    go_simp
    refine C7.mono ?_
    clear C7
    rintro r w8 ⟨x, rfl, hxv, ox, hb8⟩
    have S8 := S7.below hb8
    have a8 := S8.at'
    have b18 := b17.below hb8 b17.lt
    have b98 := b97.below hb8 b97.lt
    have hs78 := hb8.size
    have N58 : Below W5.heap.size W5 w8 := (ND.trans hb7).trans (hb8.mono hs57)
    have oq8 := SlotA.own_below oq5 N58
    have ox8 : x.own w8 w3.heap.size w8.heap.size := OwnO.widen ox (by omega) (Nat.le_refl _) (Nat.le_refl _)
    have hs38 : w3.heap.size ≤ w8.heap.size := by omega
    have hap := rec_apart oq8 ox8 (ownL_nil w8 w8.heap.size w8.heap.size (Nat.le_refl _)) hs38
    obtain ⟨rc, hrc⟩ : ∃ rc : RecA, Hid ((⟨0, tx, lst, 1, o, q, x, 0, [], none, 0⟩ : RecA) = rc) := ⟨_, rfl⟩
    have orc : rc.own w8 0 w8.heap.size := by
      rw [← hrc.out]
      exact ⟨OwnO.widen oq8 (Nat.zero_le _) hs38 (Nat.le_refl _), OwnO.widen ox8 (Nat.zero_le _) (Nat.le_refl _) (Nat.le_refl _), ownL_nil _ _ _ (Nat.le_refl _), hap⟩
    have HRB3 : Hid (∀ i ∈ rc.blocks, (w2.heap.size ≤ i ∧ i < w3.heap.size) ∨ w7.heap.size ≤ i) := fun i hi => by
      rw [← hrc.out] at hi
      simp only [RecA.blocks, List.mem_append] at hi
      rcases hi with hi | hi | hi
      · exact .inl (SlotA.blocks_lt oq8 i hi)
      · exact .inr (SlotA.blocks_lt ox i hi).1
      · cases hi
    have HRB : Hid (∀ i ∈ rc.blocks, w2.heap.size ≤ i) := fun i hi => (HRB3.out i hi).elim (fun h1 => h1.1) (fun h1 => by omega)
    have hrcE : ∀ i ∈ rc.blocks, i ∉ e1.blocks := fun i hi hm => by have := HRB.out i hi; have := S1.at'.lt i hm; omega
    have hrcN : E ∉ rc.blocks := fun hi => by have := HRB.out E hi; have := S1.at'.box.lt; omega
    have hoff9 : Off E e1 w3.heap.size := S1.at'.new hs3
    have HRV : Hid (rc.v = recSV tx (e.v.txs.getD (liveOf e.v.txs tx).toNat zeroL).last o ((e1.v.seats.getD k zeroStV).ss.getD (o % 4) ⟨false, ⟨0, [], []⟩⟩) s.v) := by
      have h1 : liveOf e.v.txs tx = kT := by show liveOf e.txs tx = kT; rw [← HTX.out]; exact hkT
      rw [Hid, h1, Int.toNat_natCast, ← HBV.out, ← hxv.out, ← hqv.out, ← hrc.out, ← hlst.out, HTX.out]
      rfl
    clear oq8 ox8 hap N58
    refine hK.out _ _ (HSB.out _ (HTC.out _ S8.at').1 b18 b98) (fun hHeld => ?_)
    clear hK K
    try simp only [Act.put, List.getElem_toArray, List.getElem_cons_zero, List.getElem_cons_succ, List.setIfInBounds_toArray, List.set_cons_zero, List.set_cons_succ]
    refine wpAnyH_take (i := 18) (v := .agg rc.cells.toArray) rfl (by kernel_rfl) (by kernel_rfl) (by kernel_rfl) (fun _ _ _ h => h) (Or.inl ⟨by rfl, ?_⟩) hHeld ?_
    · intro w' hSw
      have e9 := run_buildS w' tx lst o q x
      rw [hrc.out] at e9
      refine run_next ?_
      simp only [List.map_toArray, List.map_cons, List.map_nil]
      exact e9
    try simp only [Act.put, List.getElem_toArray, List.getElem_cons_zero, List.getElem_cons_succ, List.setIfInBounds_toArray, List.set_cons_zero, List.set_cons_succ]
    have C8 := l7Log_any E e1 rc w8 a8 orc hrcE hrcN (by rw [hl1.out]; exact hlen) (by rw [HTX.out]; omega)
    refine wpAnyH_ready (rs := [19]) (by kernel_rfl) (by simp) ?_
    refine AllReadyH.cons rfl (fun K hK => ?_) AllReadyH.nil
    go_simp
    refine C8.mono ?_
    clear C8
    rintro r w9 ⟨rfl, e9, he9, ha9, m9⟩
    have hB1 : w.heap.size ∉ rc.blocks := fun hh => by have := HRB.out _ hh; omega
    have hB9 : w3.heap.size ∉ rc.blocks := fun hh => (HRB3.out _ hh).elim (fun h1 => by omega) (fun h1 => by omega)
    have b19 := m9.boxes b18 hoff1 hB1
    have b99 := m9.boxes b98 hoff9 hB9
    have hoffB := m9.off b18.lt hoff1 hB1
    have S9 : EngStep E e w e9 w9 := EngMore.step S8 m9 (fun i hi => by have := HRB.out i hi; omega)
    have y9 : w9.cell? ⟨E, 140, none⟩ = some (.slice (some ⟨gT, 0, none⟩) e1.txs.length e1.cT) := by
      have h1 := EngA.cell_at m9.at'.shape m9.at'.box 4 _ rfl
      rw [ha9.out.1, ha9.out.2.1, hgT, show e9.txs.length = e1.txs.length from by rw [v_txs he9.out]; simp only [logV]; rw [lastV_len]; rfl] at h1
      exact h1
    refine hK.out _ _ (HSB.out _ y9 b19 b99) (fun hHeld => ?_)
    clear hK K
    try simp only [Act.put, List.getElem_toArray, List.getElem_cons_zero, List.getElem_cons_succ, List.setIfInBounds_toArray, List.set_cons_zero, List.set_cons_succ]
    refine wpAnyH_take (i := 20) (v := .int .i64 ((e1.log.recs.length : Int) + 1)) rfl (by kernel_rfl) (by kernel_rfl) (by kernel_rfl) (fun _ _ _ h => h) (Or.inl ⟨by rfl, ?_⟩) hHeld ?_
    · intro w' hSw
      go_simp <;> rfl
    try simp only [Act.put, List.getElem_toArray, List.getElem_cons_zero, List.getElem_cons_succ, List.setIfInBounds_toArray, List.set_cons_zero, List.set_cons_succ]
    refine wpAnyH_done (by kernel_rfl) ?_ _
    clear hHeld y9 b99 hB1 hB9 ha9 m9 b18 b98 S8 a8 orc hrcE hrcN
    have hl9 : e9.log.recs.length = e.log.recs.length + 1 := by rw [v_recs_len he9.out]; simp [logV, EngA.v, LogA.v, hl1.out]
    have ht9 : e9.txs.length = e.txs.length := by rw [v_txs he9.out]; simp only [logV]; rw [lastV_len]; show e1.txs.length = _; rw [HTX.out]
    have hh9 : e9.holds = e.holds := by rw [v_holds he9.out]; exact HHX.out
    have hok9 : e9.v.poolOk := by rw [he9.out]; exact log_ok _ hok _
    obtain ⟨k9, hk9a, hk9b, _⟩ := fetch_seat e9.v hok9 (o / 4)
    have CA := l7Apply_any E e9 o s ((e1.log.recs.length : Int) + 1) w9 S9.at' hok9 h32 (fun u e' _ _ hu => hr u (S9.touch_trans hu)) hl ⟨k9, hk9a, hk9b⟩
    have r19 : w9.rangeAt w.heap.size 0 s.cells := Box.range [] s.cells [] (by simpa using b19)
    have HE9 : Hid (e9.v = logV e1.v rc.v) := he9.out
    have HL9 : Hid (e9.txs.length = e.txs.length ∧ e9.holds = e.holds) := ⟨ht9, hh9⟩
    clear he9 hl9 ht9 hh9 hok9 hk9a hk9b
    go_wp2_with (first | (guard_target = wpList _ _ _ (Oper.mk (some 51) _ _ _ _ _ :: _) _ _; refine wpList_load_mid rfl 39 (.tmp 7) rfl w.heap.size 0 rfl s.cells _ r19 Tryz.underlying39 rfl (slot_info s) ?_) | fail)
    refine CA.mono ?_
    clear CA r19
    rintro r w10 ⟨⟨v10, rfl⟩, e10, he10, _, s10⟩
    have S10 := S9.trans s10
    have a10 := S10.at'
    have hh10 : e10.holds = e.holds := by rw [v_holds he10.out, (apply_rest e9.v o s.v _).2.1]; exact HL9.out.2
    have CH := l7Holder_any e10 a10.shape o w10 a10.own.holds.reads (by rw [hh10]; omega)
    have r10 : w10.rangeAt E 0 e10.cells := Box.range [] e10.cells [] (by simpa using a10.box)
    have HIE : Hid ((Tryz.prog.info? 105).map (·.size) = some e10.cells.length) := by rw [Hid, EngA.cells_len a10.shape]; exact Tryz.infoEng
    have HV10 : Hid (setV e.v tx o s.v = if holdFrom o e10.v.holds = 0 then { e10.v with holds := e10.v.holds ++ [⟨tx, o⟩] } else e10.v) := by
      have h1 : applyV (logV (fetchV e.v (o / 4)).1 (recSV tx (e.v.txs.getD (liveOf e.v.txs tx).toNat zeroL).last o (((fetchV e.v (o / 4)).1.seats.getD (fetchV e.v (o / 4)).2.toNat zeroStV).ss.getD (o % 4) ⟨false, ⟨0, [], []⟩⟩) s.v)) o s.v ((e.v.log.recs.length : Int) + 1) = e10.v := by
        rw [he10.out, HE9.out, HFV.out, HRV.out]
        simp only [Int.toNat_natCast, EngA.v, LogA.v, List.length_map, hl1.out]
      rw [Hid]
      unfold setV
      simp only
      rw [h1]
    clear he10 HE9 HL9 s10 S9
    go_wp2_with (first | (guard_target = wpList _ _ _ (Oper.mk (some 56) _ _ _ _ _ :: _) _ _; refine wpList_load_mid rfl 105 (.tmp 55) rfl E 0 rfl e10.cells _ r10 Tryz.underlying105 rfl HIE.out ?_) | fail)
    refine CH.mono ?_
    clear CH r10 HIE
    rintro r w11 ⟨rfl, hb11⟩
    have S11 := S10.below hb11
    have hs11 := hb11.size
    by_cases hz : holdFrom o e10.holds = 0
    · have hzb : (holdFrom o e10.holds == 0) = true := by simpa using hz
      have HVE : Hid (setV e.v tx o s.v = { e10.v with holds := e10.v.holds ++ [⟨tx, o⟩] }) := by rw [Hid, HV10.out, if_pos (show holdFrom o e10.v.holds = 0 from hz)]
      have a11 := S11.at'
      have x11 : w11.cell? ⟨E, 141, none⟩ = some (.slice e10.aH e10.holds.length e10.cH) := EngA.cell_at a11.shape a11.box 5 _ rfl
      have hA : Below w11.heap.size w11 (w11.alloc (.cells #[.int .i64 tx, .int .i64 (o : Int)] 182)) := (Below.refl _ _).alloc (Nat.le_refl _) _
      have hoA := a11.own.holds.below hA
      have hlh : e10.holds.length + 1 ≤ 68719476736 := by rw [hh10]; exact hH
      clear hz HV10 hh10
      go_wp2_with (first | (guard_target = wpList _ _ _ (Oper.mk (some 69) _ _ _ _ _ :: _) _ _; refine append_holdsF rfl _ _ rfl 0 w11.heap.size e10.aH e10.cH e10.holds rfl hoA _ _ [⟨tx, o⟩] rfl (readsH_one w11 ⟨tx, o⟩ _) (fun h => by cases h) (by simp; omega) (Nat.zero_le _) ?_; intro a3 c3 y3 w12 hy3 ho3 hg3 hf3; have HS12 := S11.holdsStep hA ho3 hg3 hf3; obtain ⟨W13, hW13, s13, m13, f13⟩ := HS12) | fail)
      rw [hW13.out]
      go_end0
      refine ⟨⟨_, rfl⟩, _, ?_, s13⟩
      rw [Hid, HVE.out]
      simp only [EngA.v, EngA.withHolds, hy3.out]
    · have hzb : (holdFrom o e10.holds == 0) = false := by simpa using hz
      have HVE : Hid (e10.v = setV e.v tx o s.v) := by rw [Hid, HV10.out, if_neg (show ¬ holdFrom o e10.v.holds = 0 from hz)]
      clear hz HV10 hh10
      go_wp2
      go_end0
      exact ⟨⟨_, rfl⟩, e10, HVE, S11⟩
  · go_simp
    refine C7.mono ?_
    clear C7
    rintro r w8 ⟨x, rfl, hxv, ox, hb8⟩
    have S8 := S7.below hb8
    have a8 := S8.at'
    have b18 := b17.below hb8 b17.lt
    have b98 := b97.below hb8 b97.lt
    have hs78 := hb8.size
    have N58 : Below W5.heap.size W5 w8 := (ND.trans hb7).trans (hb8.mono hs57)
    have oq8 := SlotA.own_below oq5 N58
    have ox8 : x.own w8 w3.heap.size w8.heap.size := OwnO.widen ox (by omega) (Nat.le_refl _) (Nat.le_refl _)
    have hs38 : w3.heap.size ≤ w8.heap.size := by omega
    have hap := rec_apart oq8 ox8 (ownL_nil w8 w8.heap.size w8.heap.size (Nat.le_refl _)) hs38
    obtain ⟨rc, hrc⟩ : ∃ rc : RecA, Hid ((⟨0, tx, lst, 1, o, q, x, 0, [], none, 0⟩ : RecA) = rc) := ⟨_, rfl⟩
    have orc : rc.own w8 0 w8.heap.size := by
      rw [← hrc.out]
      exact ⟨OwnO.widen oq8 (Nat.zero_le _) hs38 (Nat.le_refl _), OwnO.widen ox8 (Nat.zero_le _) (Nat.le_refl _) (Nat.le_refl _), ownL_nil _ _ _ (Nat.le_refl _), hap⟩
    have HRB3 : Hid (∀ i ∈ rc.blocks, (w2.heap.size ≤ i ∧ i < w3.heap.size) ∨ w7.heap.size ≤ i) := fun i hi => by
      rw [← hrc.out] at hi
      simp only [RecA.blocks, List.mem_append] at hi
      rcases hi with hi | hi | hi
      · exact .inl (SlotA.blocks_lt oq8 i hi)
      · exact .inr (SlotA.blocks_lt ox i hi).1
      · cases hi
    have HRB : Hid (∀ i ∈ rc.blocks, w2.heap.size ≤ i) := fun i hi => (HRB3.out i hi).elim (fun h1 => h1.1) (fun h1 => by omega)
    have hrcE : ∀ i ∈ rc.blocks, i ∉ e1.blocks := fun i hi hm => by have := HRB.out i hi; have := S1.at'.lt i hm; omega
    have hrcN : E ∉ rc.blocks := fun hi => by have := HRB.out E hi; have := S1.at'.box.lt; omega
    have hoff9 : Off E e1 w3.heap.size := S1.at'.new hs3
    have HRV : Hid (rc.v = recSV tx (e.v.txs.getD (liveOf e.v.txs tx).toNat zeroL).last o ((e1.v.seats.getD k zeroStV).ss.getD (o % 4) ⟨false, ⟨0, [], []⟩⟩) s.v) := by
      have h1 : liveOf e.v.txs tx = kT := by show liveOf e.txs tx = kT; rw [← HTX.out]; exact hkT
      rw [Hid, h1, Int.toNat_natCast, ← HBV.out, ← hxv.out, ← hqv.out, ← hrc.out, ← hlst.out, HTX.out]
      rfl
    clear oq8 ox8 hap N58
    refine hK.out _ _ (HSB.out _ (HTC.out _ S8.at').1 b18 b98) (fun hHeld => ?_)
    clear hK K
    try simp only [Act.put, List.getElem_toArray, List.getElem_cons_zero, List.getElem_cons_succ, List.setIfInBounds_toArray, List.set_cons_zero, List.set_cons_succ]
    have z8 := (HTC.out _ S8.at').2
    refine wpAnyH_ready (rs := [13]) (by kernel_rfl) (by simp) ?_
    refine AllReadyH.cons rfl (fun K hK => ?_) AllReadyH.nil
    go_simp
    refine hK.out _ _ (hHeld) (fun hHeld => ?_)
    clear hK K
    try simp only [Act.put, List.getElem_toArray, List.getElem_cons_zero, List.getElem_cons_succ, List.setIfInBounds_toArray, List.set_cons_zero, List.set_cons_succ]
    clear z8
    refine wpAnyH_take (i := 18) (v := .agg rc.cells.toArray) rfl (by kernel_rfl) (by kernel_rfl) (by kernel_rfl) (fun _ _ _ h => h) (Or.inl ⟨by rfl, ?_⟩) hHeld ?_
    · intro w' hSw
      have e9 := run_buildS w' tx lst o q x
      rw [hrc.out] at e9
      refine run_next ?_
      simp only [List.map_toArray, List.map_cons, List.map_nil]
      exact e9
    try simp only [Act.put, List.getElem_toArray, List.getElem_cons_zero, List.getElem_cons_succ, List.setIfInBounds_toArray, List.set_cons_zero, List.set_cons_succ]
    have C8 := l7Log_any E e1 rc w8 a8 orc hrcE hrcN (by rw [hl1.out]; exact hlen) (by rw [HTX.out]; omega)
    refine wpAnyH_ready (rs := [19]) (by kernel_rfl) (by simp) ?_
    refine AllReadyH.cons rfl (fun K hK => ?_) AllReadyH.nil
    go_simp
    refine C8.mono ?_
    clear C8
    rintro r w9 ⟨rfl, e9, he9, ha9, m9⟩
    have hB1 : w.heap.size ∉ rc.blocks := fun hh => by have := HRB.out _ hh; omega
    have hB9 : w3.heap.size ∉ rc.blocks := fun hh => (HRB3.out _ hh).elim (fun h1 => by omega) (fun h1 => by omega)
    have b19 := m9.boxes b18 hoff1 hB1
    have b99 := m9.boxes b98 hoff9 hB9
    have hoffB := m9.off b18.lt hoff1 hB1
    have S9 : EngStep E e w e9 w9 := EngMore.step S8 m9 (fun i hi => by have := HRB.out i hi; omega)
    have y9 : w9.cell? ⟨E, 140, none⟩ = some (.slice (some ⟨gT, 0, none⟩) e1.txs.length e1.cT) := by
      have h1 := EngA.cell_at m9.at'.shape m9.at'.box 4 _ rfl
      rw [ha9.out.1, ha9.out.2.1, hgT, show e9.txs.length = e1.txs.length from by rw [v_txs he9.out]; simp only [logV]; rw [lastV_len]; rfl] at h1
      exact h1
    refine hK.out _ _ (HSB.out _ y9 b19 b99) (fun hHeld => ?_)
    clear hK K
    try simp only [Act.put, List.getElem_toArray, List.getElem_cons_zero, List.getElem_cons_succ, List.setIfInBounds_toArray, List.set_cons_zero, List.set_cons_succ]
    refine wpAnyH_take (i := 20) (v := .int .i64 ((e1.log.recs.length : Int) + 1)) rfl (by kernel_rfl) (by kernel_rfl) (by kernel_rfl) (fun _ _ _ h => h) (Or.inl ⟨by rfl, ?_⟩) hHeld ?_
    · intro w' hSw
      go_simp <;> rfl
    try simp only [Act.put, List.getElem_toArray, List.getElem_cons_zero, List.getElem_cons_succ, List.setIfInBounds_toArray, List.set_cons_zero, List.set_cons_succ]
    refine wpAnyH_done (by kernel_rfl) ?_ _
    clear hHeld y9 b99 hB1 hB9 ha9 m9 b18 b98 S8 a8 orc hrcE hrcN
    have hl9 : e9.log.recs.length = e.log.recs.length + 1 := by rw [v_recs_len he9.out]; simp [logV, EngA.v, LogA.v, hl1.out]
    have ht9 : e9.txs.length = e.txs.length := by rw [v_txs he9.out]; simp only [logV]; rw [lastV_len]; show e1.txs.length = _; rw [HTX.out]
    have hh9 : e9.holds = e.holds := by rw [v_holds he9.out]; exact HHX.out
    have hok9 : e9.v.poolOk := by rw [he9.out]; exact log_ok _ hok _
    obtain ⟨k9, hk9a, hk9b, _⟩ := fetch_seat e9.v hok9 (o / 4)
    have CA := l7Apply_any E e9 o s ((e1.log.recs.length : Int) + 1) w9 S9.at' hok9 h32 (fun u e' _ _ hu => hr u (S9.touch_trans hu)) hl ⟨k9, hk9a, hk9b⟩
    have r19 : w9.rangeAt w.heap.size 0 s.cells := Box.range [] s.cells [] (by simpa using b19)
    have HE9 : Hid (e9.v = logV e1.v rc.v) := he9.out
    have HL9 : Hid (e9.txs.length = e.txs.length ∧ e9.holds = e.holds) := ⟨ht9, hh9⟩
    clear he9 hl9 ht9 hh9 hok9 hk9a hk9b
    go_wp2_with (first | (guard_target = wpList _ _ _ (Oper.mk (some 51) _ _ _ _ _ :: _) _ _; refine wpList_load_mid rfl 39 (.tmp 7) rfl w.heap.size 0 rfl s.cells _ r19 Tryz.underlying39 rfl (slot_info s) ?_) | fail)
    refine CA.mono ?_
    clear CA r19
    rintro r w10 ⟨⟨v10, rfl⟩, e10, he10, _, s10⟩
    have S10 := S9.trans s10
    have a10 := S10.at'
    have hh10 : e10.holds = e.holds := by rw [v_holds he10.out, (apply_rest e9.v o s.v _).2.1]; exact HL9.out.2
    have CH := l7Holder_any e10 a10.shape o w10 a10.own.holds.reads (by rw [hh10]; omega)
    have r10 : w10.rangeAt E 0 e10.cells := Box.range [] e10.cells [] (by simpa using a10.box)
    have HIE : Hid ((Tryz.prog.info? 105).map (·.size) = some e10.cells.length) := by rw [Hid, EngA.cells_len a10.shape]; exact Tryz.infoEng
    have HV10 : Hid (setV e.v tx o s.v = if holdFrom o e10.v.holds = 0 then { e10.v with holds := e10.v.holds ++ [⟨tx, o⟩] } else e10.v) := by
      have h1 : applyV (logV (fetchV e.v (o / 4)).1 (recSV tx (e.v.txs.getD (liveOf e.v.txs tx).toNat zeroL).last o (((fetchV e.v (o / 4)).1.seats.getD (fetchV e.v (o / 4)).2.toNat zeroStV).ss.getD (o % 4) ⟨false, ⟨0, [], []⟩⟩) s.v)) o s.v ((e.v.log.recs.length : Int) + 1) = e10.v := by
        rw [he10.out, HE9.out, HFV.out, HRV.out]
        simp only [Int.toNat_natCast, EngA.v, LogA.v, List.length_map, hl1.out]
      rw [Hid]
      unfold setV
      simp only
      rw [h1]
    clear he10 HE9 HL9 s10 S9
    go_wp2_with (first | (guard_target = wpList _ _ _ (Oper.mk (some 56) _ _ _ _ _ :: _) _ _; refine wpList_load_mid rfl 105 (.tmp 55) rfl E 0 rfl e10.cells _ r10 Tryz.underlying105 rfl HIE.out ?_) | fail)
    refine CH.mono ?_
    clear CH r10 HIE
    rintro r w11 ⟨rfl, hb11⟩
    have S11 := S10.below hb11
    have hs11 := hb11.size
    by_cases hz : holdFrom o e10.holds = 0
    · have hzb : (holdFrom o e10.holds == 0) = true := by simpa using hz
      have HVE : Hid (setV e.v tx o s.v = { e10.v with holds := e10.v.holds ++ [⟨tx, o⟩] }) := by rw [Hid, HV10.out, if_pos (show holdFrom o e10.v.holds = 0 from hz)]
      have a11 := S11.at'
      have x11 : w11.cell? ⟨E, 141, none⟩ = some (.slice e10.aH e10.holds.length e10.cH) := EngA.cell_at a11.shape a11.box 5 _ rfl
      have hA : Below w11.heap.size w11 (w11.alloc (.cells #[.int .i64 tx, .int .i64 (o : Int)] 182)) := (Below.refl _ _).alloc (Nat.le_refl _) _
      have hoA := a11.own.holds.below hA
      have hlh : e10.holds.length + 1 ≤ 68719476736 := by rw [hh10]; exact hH
      clear hz HV10 hh10
      go_wp2_with (first | (guard_target = wpList _ _ _ (Oper.mk (some 69) _ _ _ _ _ :: _) _ _; refine append_holdsF rfl _ _ rfl 0 w11.heap.size e10.aH e10.cH e10.holds rfl hoA _ _ [⟨tx, o⟩] rfl (readsH_one w11 ⟨tx, o⟩ _) (fun h => by cases h) (by simp; omega) (Nat.zero_le _) ?_; intro a3 c3 y3 w12 hy3 ho3 hg3 hf3; have HS12 := S11.holdsStep hA ho3 hg3 hf3; obtain ⟨W13, hW13, s13, m13, f13⟩ := HS12) | fail)
      rw [hW13.out]
      go_end0
      refine ⟨⟨_, rfl⟩, _, ?_, s13⟩
      rw [Hid, HVE.out]
      simp only [EngA.v, EngA.withHolds, hy3.out]
    · have hzb : (holdFrom o e10.holds == 0) = false := by simpa using hz
      have HVE : Hid (e10.v = setV e.v tx o s.v) := by rw [Hid, HV10.out, if_neg (show ¬ holdFrom o e10.v.holds = 0 from hz)]
      clear hz HV10 hh10
      go_wp2
      go_end0
      exact ⟨⟨_, rfl⟩, e10, HVE, S11⟩
end Go.Proofs.YtickiokdcbeefaaGreatDoor

/- The walk of spec.UndoOf. -/
namespace Go.Proofs.YtickiokdcbeefaaGreatDoor
open Go.RowKit

set_option maxHeartbeats 4000000 in
set_option maxRecDepth 100000 in
theorem specUndoOf_any (r : RecA) (n p : Int) (w : World) (hr : r.reads w) (hl : r.short 1099511627776) :
    Calls Tryz.prog 130 #[.agg r.cells.toArray, .int .i64 n, .int .i64 p] w fun e w' => ∃ t : RecA, e = .returned (.agg t.cells.toArray) ∧ Hid (t.v = undoV r.v n p) ∧ t.own w' w.heap.size w'.heap.size ∧ Below w.heap.size w w' := by
  obtain ⟨W, hW, b0, b1, hbW, hsW⟩ := boxes2 w r.cells zeroR.cells 42 42
  have HX : Hid (∀ u, Below W.heap.size W u → Box u w.heap.size r.cells 42) := fun u hu => b0.below hu b0.lt
  have HX1 : Hid (∀ u, Below W.heap.size W u → Box u (w.heap.size + 1) zeroR.cells 42) := fun u hu => b1.below hu b1.lt
  have HU1 : Hid (okR r.v = false → undoV r.v n p = noR) := fun h => undoV_bad h
  have HU4 : Hid (¬ r.kind = 1 → undoV r.v n p = noR) := fun h => undoV_kind (r := r.v) h
  have HU2 : Hid (okR (backV r.v n p) = false → undoV r.v n p = noR) := fun h => undoV_no h
  have HU3 : Hid (okR r.v = true → r.kind = 1 → okR (backV r.v n p) = true → undoV r.v n p = backV r.v n p) := fun h0 h1 h2 => undoV_yes h0 h1 h2
  generalize undoV r.v n p = R at *
  have C1 := specRecOk_any r W (hr.below hbW) hl
  have HS : Hid (∀ w', Box w' w.heap.size r.cells 42 → w'.cell? ⟨w.heap.size, 1, none⟩ = some (.int .i64 r.tx) ∧ w'.cell? ⟨w.heap.size, 2, none⟩ = some (.int .i64 r.prev) ∧ w'.cell? ⟨w.heap.size, 4, none⟩ = some (.int .i64 r.oid) ∧ w'.cell? ⟨w.heap.size, 5, none⟩ = some (.bool r.bf.v.has) ∧ w'.cell? ⟨w.heap.size, 6, none⟩ = some (.int .i64 r.bf.v.o.kind) ∧ w'.cell? ⟨w.heap.size, 7, none⟩ = some (.slice r.bf.aI r.bf.v.o.ints.length r.bf.cI) ∧ w'.cell? ⟨w.heap.size, 8, none⟩ = some (.slice r.bf.aR r.bf.v.o.refs.length r.bf.cR)) := fun w' b => ⟨b.cell 1 _ rfl, b.cell 2 _ rfl, b.cell 4 _ rfl, b.cell 5 _ rfl, b.cell 6 _ rfl, b.cell 7 _ rfl, b.cell 8 _ rfl⟩
  have HK : Hid (∀ w', Box w' w.heap.size r.cells 42 → w'.cell? ⟨w.heap.size, 3, none⟩ = some (.int .i64 r.kind)) := fun w' b => b.cell 3 _ rfl
  have HRG : Hid (∀ w', Box w' w.heap.size r.cells 42 → w'.rangeAt w.heap.size 0 r.cells) := fun w' b => Box.range [] r.cells [] (by simpa using b)
  have hlt := b1.lt
  clear b0 b1 hsW
  simp only [show zeroR.cells = [.int .i64 0, .int .i64 0, .int .i64 0, .int .i64 0, .int .i64 0, .bool false, .int .i64 0, .slice none 0 0, .slice none 0 0, .bool false, .int .i64 0, .slice none 0 0, .slice none 0 0, .int .i64 0, .slice none 0 0] from rfl] at hW
  go_enter Tryz.func130, Tryz.ntmps130
  go_wp2_with (first | (guard_target = wpList _ _ _ (Oper.mk (some 8) _ _ _ _ _ :: _) _ _; refine wpList_load_mid rfl 42 (.tmp 3) rfl w.heap.size 0 rfl r.cells _ (by rw [hW.out]; exact HRG.out _ (HX.out _ (Below.refl _ _))) Tryz.underlying42 rfl (rec_info _) ?_) | fail)
  rw [hW.out]
  clear hW
  refine C1.mono ?_
  clear C1
  rintro e w1 ⟨rfl, hb1⟩
  have B1 : Below w.heap.size w w1 := hbW.trans (hb1.mono hbW.size)
  have hs1 := hb1.size
  cases hok : okR r.v with
  | false =>
    have HR : Hid (zeroR.v = R) := (HU1.out hok).symm
    obtain ⟨WF, hWF, hwF, hsF, HTF, HLF, _⟩ := rec_out zeroR _ rfl (HX1.out _ hb1)
    have HE : Hid (zeroR.own WF w.heap.size WF.heap.size ∧ Below w.heap.size w WF) := ⟨own_zeroR _ _ _ (Nat.le_refl _), B1.trans (hwF.below (by omega) (by omega))⟩
    clear hwF hsF HU1 HU2 HU3 HU4 hok
    go_wp2_with (first | (guard_target = wpList _ _ _ (Oper.mk none (Op.store _ (Operand.tmp 6) _) _ _ _ _ :: _) _ _; refine wpList_store_mid rfl 42 (.tmp 6) (.tmp 16) rfl (w.heap.size + 1) 0 zeroR.cells.toArray rfl rfl HTF.out (by rw [List.size_toArray]; exact rec_info _) (rec_one _) ?_) | fail)
    rw [hWF.out]
    exact bodyPost_ret (v := .agg zeroR.cells.toArray) (results_one Tryz.results130 rfl HLF.out) rfl ⟨zeroR, rfl, HR, HE.out.1, HE.out.2⟩
  | true =>
  have k3 := HK.out _ (HX.out _ hb1)
  cases hk : (r.kind == 1) with
  | false =>
    have HR : Hid (zeroR.v = R) := (HU4.out (by simpa using hk)).symm
    obtain ⟨WF, hWF, hwF, hsF, HTF, HLF, _⟩ := rec_out zeroR _ rfl (HX1.out _ hb1)
    have HE : Hid (zeroR.own WF w.heap.size WF.heap.size ∧ Below w.heap.size w WF) := ⟨own_zeroR _ _ _ (Nat.le_refl _), B1.trans (hwF.below (by omega) (by omega))⟩
    clear hwF hsF HU1 HU2 HU3 HU4 hok
    go_wp2_with (first | (guard_target = wpList _ _ _ (Oper.mk none (Op.store _ (Operand.tmp 6) _) _ _ _ _ :: _) _ _; refine wpList_store_mid rfl 42 (.tmp 6) (.tmp 16) rfl (w.heap.size + 1) 0 zeroR.cells.toArray rfl rfl HTF.out (by rw [List.size_toArray]; exact rec_info _) (rec_one _) ?_) | fail)
    rw [hWF.out]
    exact bodyPost_ret (v := .agg zeroR.cells.toArray) (results_one Tryz.results130 rfl HLF.out) rfl ⟨zeroR, rfl, HR, HE.out.1, HE.out.2⟩
  | true =>
  have HU5 : Hid (okR (backV r.v n p) = true → R = backV r.v n p) := fun h => HU3.out hok (by simpa using hk) h
  clear HU1 HU3 HU4 hok
  go_upto_region 3 with fail
  go_cut [7] from 8 (fun x wx => ∃ (Bx : Nat) (t : SlotA), x = .pointer (some ⟨Bx, 0, none⟩) ∧ Hid (t.v = r.bf.v) ∧ Box wx Bx (backA n r.tx p r.oid t r.prev).cells 42 ∧ t.own wx w1.heap.size wx.heap.size ∧ Below w1.heap.size w1 wx)
  case first =>
    clear HU2 HU5 k3 hk
    have hrb := ReadsO.below hr.bf B1
    refine wp_region_held_drew (S := fun w' => w'.cell? ⟨w.heap.size, 1, none⟩ = some (.int .i64 r.tx) ∧ w'.cell? ⟨w.heap.size, 2, none⟩ = some (.int .i64 r.prev) ∧ w'.cell? ⟨w.heap.size, 4, none⟩ = some (.int .i64 r.oid) ∧ w'.cell? ⟨w.heap.size, 5, none⟩ = some (.bool r.bf.v.has) ∧ w'.cell? ⟨w.heap.size, 6, none⟩ = some (.int .i64 r.bf.v.o.kind) ∧ w'.cell? ⟨w.heap.size, 7, none⟩ = some (.slice r.bf.aI r.bf.v.o.ints.length r.bf.cI) ∧ w'.cell? ⟨w.heap.size, 8, none⟩ = some (.slice r.bf.aR r.bf.v.o.refs.length r.bf.cR)) (by kernel_rfl) (HS.out _ (HX.out _ hb1.drew)) (fun hHeld => ?_)
    refine wpAnyH_take (i := 0) (v := .int .i64 n) rfl (by kernel_rfl) (by kernel_rfl) (by kernel_rfl) (fun _ _ _ h => h) (Or.inl ⟨by rfl, ?_⟩) hHeld ?_
    · intro w' hSw
      go_simp <;> rfl
    try simp only [Act.put, List.getElem_toArray, List.getElem_cons_zero, List.setIfInBounds_toArray, List.set_cons_zero, List.set_cons_succ]
    refine wpAnyH_take (i := 1) (v := .pointer (some ⟨w.heap.size, 1, none⟩)) rfl (by kernel_rfl) (by kernel_rfl) (by kernel_rfl) (fun _ _ _ h => h) (Or.inl ⟨by rfl, ?_⟩) hHeld ?_
    · intro w' hSw
      go_simp <;> rfl
    try simp only [Act.put, List.getElem_toArray, List.getElem_cons_zero, List.getElem_cons_succ, List.setIfInBounds_toArray, List.set_cons_zero, List.set_cons_succ]
    refine wpAnyH_take (i := 2) (v := .int .i64 r.tx) rfl (by kernel_rfl) (by kernel_rfl) (by kernel_rfl) (fun _ _ _ h => h) (Or.inl ⟨by rfl, ?_⟩) hHeld ?_
    · intro w' hSw
      go_simp <;> rfl
    try simp only [Act.put, List.getElem_toArray, List.getElem_cons_zero, List.getElem_cons_succ, List.setIfInBounds_toArray, List.set_cons_zero, List.set_cons_succ]
    refine wpAnyH_take (i := 3) (v := .int .i64 p) rfl (by kernel_rfl) (by kernel_rfl) (by kernel_rfl) (fun _ _ _ h => h) (Or.inl ⟨by rfl, ?_⟩) hHeld ?_
    · intro w' hSw
      go_simp <;> rfl
    try simp only [Act.put, List.getElem_toArray, List.getElem_cons_zero, List.getElem_cons_succ, List.setIfInBounds_toArray, List.set_cons_zero, List.set_cons_succ]
    refine wpAnyH_take (i := 4) (v := .pointer (some ⟨w.heap.size, 4, none⟩)) rfl (by kernel_rfl) (by kernel_rfl) (by kernel_rfl) (fun _ _ _ h => h) (Or.inl ⟨by rfl, ?_⟩) hHeld ?_
    · intro w' hSw
      go_simp <;> rfl
    try simp only [Act.put, List.getElem_toArray, List.getElem_cons_zero, List.getElem_cons_succ, List.setIfInBounds_toArray, List.set_cons_zero, List.set_cons_succ]
    refine wpAnyH_take (i := 5) (v := .int .i64 r.oid) rfl (by kernel_rfl) (by kernel_rfl) (by kernel_rfl) (fun _ _ _ h => h) (Or.inl ⟨by rfl, ?_⟩) hHeld ?_
    · intro w' hSw
      go_simp <;> rfl
    try simp only [Act.put, List.getElem_toArray, List.getElem_cons_zero, List.getElem_cons_succ, List.setIfInBounds_toArray, List.set_cons_zero, List.set_cons_succ]
    refine wpAnyH_take (i := 6) (v := .pointer (some ⟨w.heap.size, 5, none⟩)) rfl (by kernel_rfl) (by kernel_rfl) (by kernel_rfl) (fun _ _ _ h => h) (Or.inl ⟨by rfl, ?_⟩) hHeld ?_
    · intro w' hSw
      go_simp <;> rfl
    try simp only [Act.put, List.getElem_toArray, List.getElem_cons_zero, List.getElem_cons_succ, List.setIfInBounds_toArray, List.set_cons_zero, List.set_cons_succ]
    refine wpAnyH_take (i := 7) (v := .agg #[.bool r.bf.v.has, .int .i64 r.bf.v.o.kind, .slice r.bf.aI r.bf.v.o.ints.length r.bf.cI, .slice r.bf.aR r.bf.v.o.refs.length r.bf.cR]) rfl (by kernel_rfl) (by kernel_rfl) (by kernel_rfl) (fun _ _ _ h => h) (Or.inl ⟨by rfl, ?_⟩) hHeld ?_
    · intro w' hSw
      go_simp <;> rfl
    try simp only [Act.put, List.getElem_toArray, List.getElem_cons_zero, List.getElem_cons_succ, List.setIfInBounds_toArray, List.set_cons_zero, List.set_cons_succ]
    refine wpAnyH_take (i := 9) (v := .pointer (some ⟨w.heap.size, 2, none⟩)) rfl (by kernel_rfl) (by kernel_rfl) (by kernel_rfl) (fun _ _ _ h => h) (Or.inl ⟨by rfl, ?_⟩) hHeld ?_
    · intro w' hSw
      go_simp <;> rfl
    try simp only [Act.put, List.getElem_toArray, List.getElem_cons_zero, List.getElem_cons_succ, List.setIfInBounds_toArray, List.set_cons_zero, List.set_cons_succ]
    refine wpAnyH_take (i := 10) (v := .int .i64 r.prev) rfl (by kernel_rfl) (by kernel_rfl) (by kernel_rfl) (fun _ _ _ h => h) (Or.inl ⟨by rfl, ?_⟩) hHeld ?_
    · intro w' hSw
      go_simp <;> rfl
    try simp only [Act.put, List.getElem_toArray, List.getElem_cons_zero, List.getElem_cons_succ, List.setIfInBounds_toArray, List.set_cons_zero, List.set_cons_succ]
    refine wpAnyH_ready (rs := [8, 12]) (by kernel_rfl) (by simp) ?_
    refine AllReadyH.cons rfl (fun K hK => ?_) (AllReadyH.cons rfl (fun K hK => ?_) AllReadyH.nil)
    · go_simp
      refine (l3CopySlot_own r.bf _ (ReadsO.below hrb (Below.refl _ _).drew) hl.bf.1 hl.bf.2).mono ?_
      rintro e u1 ⟨t, rfl, hv, ho, hbu⟩
      have hB0 : Below w1.heap.size w1 u1 := (Below.refl _ _).drew.trans hbu
      have hsu := hB0.size
      refine hK.out _ _ (HS.out _ (HX.out _ (hb1.trans (hB0.mono hb1.size)))) (fun hHeld => ?_)
      clear hK K
      try simp only [Act.put, List.getElem_toArray, List.getElem_cons_zero, List.getElem_cons_succ, List.setIfInBounds_toArray, List.set_cons_zero, List.set_cons_succ]
      refine wpAnyH_take (i := 11) (v := .agg (backA n r.tx p r.oid t r.prev).cells.toArray) rfl (by kernel_rfl) (by kernel_rfl) (by kernel_rfl) (fun _ _ _ h => h) (Or.inl ⟨by rfl, ?_⟩) hHeld ?_
      · intro w' hSw
        go_simp <;> rfl
      try simp only [Act.put, List.getElem_toArray, List.getElem_cons_zero, List.getElem_cons_succ, List.setIfInBounds_toArray, List.set_cons_zero, List.set_cons_succ]
      refine wpAnyH_ready (rs := [12]) (by kernel_rfl) (by simp) ?_
      refine AllReadyH.cons rfl (fun K hK => ?_) AllReadyH.nil
      go_simp
      have hB1 : Below w1.heap.size w1 (u1.alloc (.cells #[.int .i64 0, .int .i64 0, .int .i64 0, .int .i64 0, .int .i64 0, .bool false, .int .i64 0, .slice none 0 0, .slice none 0 0, .bool false, .int .i64 0, .slice none 0 0, .slice none 0 0, .int .i64 0, .slice none 0 0] 42)) := hB0.alloc hB0.size _
      refine hK.out _ _ (HS.out _ (HX.out _ (hb1.trans (hB1.mono hb1.size)))) (fun hHeld => ?_)
      clear hK K
      try simp only [Act.put, List.getElem_toArray, List.getElem_cons_zero, List.getElem_cons_succ, List.setIfInBounds_toArray, List.set_cons_zero, List.set_cons_succ]
      have bN : Box (u1.alloc (.cells #[.int .i64 0, .int .i64 0, .int .i64 0, .int .i64 0, .int .i64 0, .bool false, .int .i64 0, .slice none 0 0, .slice none 0 0, .bool false, .int .i64 0, .slice none 0 0, .slice none 0 0, .int .i64 0, .slice none 0 0] 42)) u1.heap.size [.int .i64 0, .int .i64 0, .int .i64 0, .int .i64 0, .int .i64 0, .bool false, .int .i64 0, .slice none 0 0, .slice none 0 0, .bool false, .int .i64 0, .slice none 0 0, .slice none 0 0, .int .i64 0, .slice none 0 0] 42 := box_new _ _ _
      have ho := OwnO.below ho ((Below.refl u1.heap.size u1).alloc (Nat.le_refl _) (.cells #[.int .i64 0, .int .i64 0, .int .i64 0, .int .i64 0, .int .i64 0, .bool false, .int .i64 0, .slice none 0 0, .slice none 0 0, .bool false, .int .i64 0, .slice none 0 0, .slice none 0 0, .int .i64 0, .slice none 0 0] 42))
      have hsN := bN.lt
      obtain ⟨WF, hWF, hwF, hsF, HTF, _, bF⟩ := rec_out (backA n r.tx p r.oid t r.prev) [.int .i64 0, .int .i64 0, .int .i64 0, .int .i64 0, .int .i64 0, .bool false, .int .i64 0, .slice none 0 0, .slice none 0 0, .bool false, .int .i64 0, .slice none 0 0, .slice none 0 0, .int .i64 0, .slice none 0 0] rfl bN
      have hSF : WF.cell? ⟨w.heap.size, 1, none⟩ = some (.int .i64 r.tx) ∧ WF.cell? ⟨w.heap.size, 2, none⟩ = some (.int .i64 r.prev) ∧ WF.cell? ⟨w.heap.size, 4, none⟩ = some (.int .i64 r.oid) ∧ WF.cell? ⟨w.heap.size, 5, none⟩ = some (.bool r.bf.v.has) ∧ WF.cell? ⟨w.heap.size, 6, none⟩ = some (.int .i64 r.bf.v.o.kind) ∧ WF.cell? ⟨w.heap.size, 7, none⟩ = some (.slice r.bf.aI r.bf.v.o.ints.length r.bf.cI) ∧ WF.cell? ⟨w.heap.size, 8, none⟩ = some (.slice r.bf.aR r.bf.v.o.refs.length r.bf.cR) := HS.out _ (HX.out _ ((hb1.trans (hB1.mono hb1.size)).trans (hwF.below (by have := hb1.size; omega) (by have := hb1.size; omega))))
      refine wpAnyH_ready (rs := [13]) (by kernel_rfl) (by simp) ?_
      refine AllReadyH.cons rfl (fun K hK => ?_) AllReadyH.nil
      rw [if_pos (by rfl)]
      refine wp_store_mid 42 (.tmp 7) (.tmp 28) rfl (u1.heap.size) 0 (backA n r.tx p r.oid t r.prev).cells.toArray rfl rfl HTF.out (by rw [List.size_toArray]; exact rec_info _) (rec_one _) ?_
      have HW : Hid ((u1.alloc (.cells #[.int .i64 0, .int .i64 0, .int .i64 0, .int .i64 0, .int .i64 0, .bool false, .int .i64 0, .slice none 0 0, .slice none 0 0, .bool false, .int .i64 0, .slice none 0 0, .slice none 0 0, .int .i64 0, .slice none 0 0] 42)).setCells (u1.heap.size) 0 (backA n r.tx p r.oid t r.prev).cells.toArray.toList = WF) := hWF.out
      rw [HW.out]
      refine hK.out _ _ hSF (fun hHeld => ?_)
      refine wpAnyH_done (by kernel_rfl) ?_ _
      have hRel : Hid (Below w1.heap.size w1 WF ∧ t.own WF w1.heap.size WF.heap.size) := ⟨hB1.trans (hwF.below (by omega) (by omega)), OwnO.widen (OwnO.within ho hwF (by omega)) (by first | omega | exact Nat.le_refl _) (by omega) (Nat.le_refl _)⟩
      clear hHeld hK K HW hWF hwF HTF hSF
      go_wp2_with fail
      go_meet
      case rel => exact ⟨u1.heap.size, t, rfl, hv, bF, hRel.out.2, hRel.out.1⟩
    · go_simp
      have hB0 : Below w1.heap.size w1 (w1.drew.alloc (.cells #[.int .i64 0, .int .i64 0, .int .i64 0, .int .i64 0, .int .i64 0, .bool false, .int .i64 0, .slice none 0 0, .slice none 0 0, .bool false, .int .i64 0, .slice none 0 0, .slice none 0 0, .int .i64 0, .slice none 0 0] 42)) := (Below.refl _ _).drew.alloc (Nat.le_refl _) _
      refine hK.out _ _ (HS.out _ (HX.out _ (hb1.trans (hB0.mono hb1.size)))) (fun hHeld => ?_)
      clear hK K
      try simp only [Act.put, List.getElem_toArray, List.getElem_cons_zero, List.getElem_cons_succ, List.setIfInBounds_toArray, List.set_cons_zero, List.set_cons_succ]
      refine wpAnyH_ready (rs := [8]) (by kernel_rfl) (by simp) ?_
      refine AllReadyH.cons rfl (fun K hK => ?_) AllReadyH.nil
      go_simp
      refine (l3CopySlot_own r.bf _ (ReadsO.below hrb hB0) hl.bf.1 hl.bf.2).mono ?_
      have bN0 : Box (w1.drew.alloc (.cells #[.int .i64 0, .int .i64 0, .int .i64 0, .int .i64 0, .int .i64 0, .bool false, .int .i64 0, .slice none 0 0, .slice none 0 0, .bool false, .int .i64 0, .slice none 0 0, .slice none 0 0, .int .i64 0, .slice none 0 0] 42)) w1.drew.heap.size [.int .i64 0, .int .i64 0, .int .i64 0, .int .i64 0, .int .i64 0, .bool false, .int .i64 0, .slice none 0 0, .slice none 0 0, .bool false, .int .i64 0, .slice none 0 0, .slice none 0 0, .int .i64 0, .slice none 0 0] 42 := box_new _ _ _
      generalize hAW : w1.drew.alloc (.cells #[.int .i64 0, .int .i64 0, .int .i64 0, .int .i64 0, .int .i64 0, .bool false, .int .i64 0, .slice none 0 0, .slice none 0 0, .bool false, .int .i64 0, .slice none 0 0, .slice none 0 0, .int .i64 0, .slice none 0 0] 42) = AW at *
      have bN1 : Box AW w1.heap.size [.int .i64 0, .int .i64 0, .int .i64 0, .int .i64 0, .int .i64 0, .bool false, .int .i64 0, .slice none 0 0, .slice none 0 0, .bool false, .int .i64 0, .slice none 0 0, .slice none 0 0, .int .i64 0, .slice none 0 0] 42 := bN0
      clear bN0 hAW
      rintro e u1 ⟨t, rfl, hv, ho, hbu⟩
      have hB1 : Below w1.heap.size w1 u1 := hB0.trans (hbu.mono hB0.size)
      have hsu := hB1.size
      have bN := bN1.below hbu bN1.lt
      have hsN := bN1.lt
      refine hK.out _ _ (HS.out _ (HX.out _ (hb1.trans (hB1.mono hb1.size)))) (fun hHeld => ?_)
      clear hK K
      try simp only [Act.put, List.getElem_toArray, List.getElem_cons_zero, List.getElem_cons_succ, List.setIfInBounds_toArray, List.set_cons_zero, List.set_cons_succ]
      refine wpAnyH_take (i := 11) (v := .agg (backA n r.tx p r.oid t r.prev).cells.toArray) rfl (by kernel_rfl) (by kernel_rfl) (by kernel_rfl) (fun _ _ _ h => h) (Or.inl ⟨by rfl, ?_⟩) hHeld ?_
      · intro w' hSw
        go_simp <;> rfl
      try simp only [Act.put, List.getElem_toArray, List.getElem_cons_zero, List.getElem_cons_succ, List.setIfInBounds_toArray, List.set_cons_zero, List.set_cons_succ]
      obtain ⟨WF, hWF, hwF, hsF, HTF, _, bF⟩ := rec_out (backA n r.tx p r.oid t r.prev) [.int .i64 0, .int .i64 0, .int .i64 0, .int .i64 0, .int .i64 0, .bool false, .int .i64 0, .slice none 0 0, .slice none 0 0, .bool false, .int .i64 0, .slice none 0 0, .slice none 0 0, .int .i64 0, .slice none 0 0] rfl bN
      have hSF : WF.cell? ⟨w.heap.size, 1, none⟩ = some (.int .i64 r.tx) ∧ WF.cell? ⟨w.heap.size, 2, none⟩ = some (.int .i64 r.prev) ∧ WF.cell? ⟨w.heap.size, 4, none⟩ = some (.int .i64 r.oid) ∧ WF.cell? ⟨w.heap.size, 5, none⟩ = some (.bool r.bf.v.has) ∧ WF.cell? ⟨w.heap.size, 6, none⟩ = some (.int .i64 r.bf.v.o.kind) ∧ WF.cell? ⟨w.heap.size, 7, none⟩ = some (.slice r.bf.aI r.bf.v.o.ints.length r.bf.cI) ∧ WF.cell? ⟨w.heap.size, 8, none⟩ = some (.slice r.bf.aR r.bf.v.o.refs.length r.bf.cR) := HS.out _ (HX.out _ ((hb1.trans (hB1.mono hb1.size)).trans (hwF.below (by have := hb1.size; omega) (by have := hb1.size; omega))))
      refine wpAnyH_ready (rs := [13]) (by kernel_rfl) (by simp) ?_
      refine AllReadyH.cons rfl (fun K hK => ?_) AllReadyH.nil
      rw [if_pos (by rfl)]
      refine wp_store_mid 42 (.tmp 7) (.tmp 28) rfl (w1.heap.size) 0 (backA n r.tx p r.oid t r.prev).cells.toArray rfl rfl HTF.out (by rw [List.size_toArray]; exact rec_info _) (rec_one _) ?_
      have HW : Hid ((u1).setCells (w1.heap.size) 0 (backA n r.tx p r.oid t r.prev).cells.toArray.toList = WF) := hWF.out
      rw [HW.out]
      refine hK.out _ _ hSF (fun hHeld => ?_)
      refine wpAnyH_done (by kernel_rfl) ?_ _
      have hRel : Hid (Below w1.heap.size w1 WF ∧ t.own WF w1.heap.size WF.heap.size) := ⟨hB1.trans (hwF.below (by omega) (by omega)), OwnO.widen (OwnO.within ho hwF (by omega)) (by first | omega | exact Nat.le_refl _) (by omega) (Nat.le_refl _)⟩
      clear hHeld hK K HW hWF hwF HTF hSF
      go_wp2_with fail
      go_meet
      case rel => exact ⟨w1.heap.size, t, rfl, hv, bF, hRel.out.2, hRel.out.1⟩
  case rest =>
    obtain ⟨B7, t, rfl, hv, b7, ho, hbc⟩ := hcut
    have M4 : Below W.heap.size W wc := hb1.trans (hbc.mono hb1.size)
    have B4 : Below w.heap.size w wc := B1.trans (hbc.mono B1.size)
    have hsc := hbc.size
    have hB1s := B1.size
    have HTV : Hid ((backA n r.tx p r.oid t r.prev).v = backV r.v n p) := by simp only [Hid, RecA.v, backA, backV, hv.out]; rfl
    have hts : (backA n r.tx p r.oid t r.prev).short 1099511627776 := ⟨⟨Nat.zero_le _, Nat.zero_le _⟩, by rw [show (backA n r.tx p r.oid t r.prev).af = t from rfl, hv.out]; exact hl.bf, Nat.zero_le _⟩
    have hto : (backA n r.tx p r.oid t r.prev).own wc w1.heap.size wc.heap.size := own_backA _ _ _ _ _ ho (Nat.le_refl _)
    generalize backA n r.tx p r.oid t r.prev = T at *
    have C6 := specRecOk_any T wc hto.reads hts
    rw [HTV.out] at C6
    have HR5 : Hid (∀ u, Below wc.heap.size wc u → u.rangeAt B7 0 T.cells) := fun u hu => Box.range [] T.cells [] (by simpa using b7.below hu b7.lt)
    have r5 := HR5.out _ (Below.refl _ _)
    clear k3 hk
    go_wp2_with (first | (guard_target = wpList _ _ _ (Oper.mk (some 29) _ _ _ _ _ :: _) _ _; refine wpList_load_mid rfl 42 (.tmp 7) rfl B7 0 rfl T.cells _ r5 Tryz.underlying42 rfl (rec_info _) ?_) | fail)
    clear r5
    refine C6.mono ?_
    clear C6
    rintro e w6 ⟨rfl, hb6⟩
    have M6 : Below W.heap.size W w6 := M4.trans (hb6.mono M4.size)
    have B6 : Below w.heap.size w w6 := B4.trans (hb6.mono B4.size)
    have hs6 := hb6.size
    cases hok6 : okR (backV r.v n p) with
    | false =>
      have HR : Hid (zeroR.v = R) := (HU2.out hok6).symm
      obtain ⟨WF, hWF, hwF, hsF, HTF, HLF, _⟩ := rec_out zeroR _ rfl (HX1.out _ M6)
      have HE : Hid (zeroR.own WF w.heap.size WF.heap.size ∧ Below w.heap.size w WF) := ⟨own_zeroR _ _ _ (Nat.le_refl _), B6.trans (hwF.below (by omega) (by omega))⟩
      clear hwF hsF HU2 HU5 hok6
      go_wp2_with (first | (guard_target = wpList _ _ _ (Oper.mk none (Op.store _ (Operand.tmp 6) _) _ _ _ _ :: _) _ _; refine wpList_store_mid rfl 42 (.tmp 6) (.tmp 32) rfl (w.heap.size + 1) 0 zeroR.cells.toArray rfl rfl HTF.out (by rw [List.size_toArray]; exact rec_info _) (rec_one _) ?_) | fail)
      rw [hWF.out]
      exact bodyPost_ret (v := .agg zeroR.cells.toArray) (results_one Tryz.results130 rfl HLF.out) rfl ⟨zeroR, rfl, HR, HE.out.1, HE.out.2⟩
    | true =>
      have HR : Hid (T.v = R) := HTV.out.trans (HU5.out hok6).symm
      obtain ⟨WF, hWF, hwF, hsF, HTF, HLF, _⟩ := rec_out T _ rfl (HX1.out _ M6)
      have oF : T.own WF w.heap.size WF.heap.size := ((hto.below hb6).within hwF (.inr (by omega))).widen (by omega) (by omega) (Nat.le_refl _)
      have HE : Hid (T.own WF w.heap.size WF.heap.size ∧ Below w.heap.size w WF) := ⟨oF, B6.trans (hwF.below (by omega) (by omega))⟩
      have r6 := HR5.out _ hb6
      clear hwF hsF HU2 HU5 hok6 oF
      go_wp2_with (first | (guard_target = wpList _ _ _ (Oper.mk (some 33) _ _ _ _ _ :: _) _ _; refine wpList_load_mid rfl 42 (.tmp 7) rfl B7 0 rfl T.cells _ r6 Tryz.underlying42 rfl (rec_info _) ?_) | (guard_target = wpList _ _ _ (Oper.mk none (Op.store _ (Operand.tmp 6) _) _ _ _ _ :: _) _ _; refine wpList_store_mid rfl 42 (.tmp 6) (.tmp 33) rfl (w.heap.size + 1) 0 T.cells.toArray rfl rfl HTF.out (by rw [List.size_toArray]; exact rec_info _) (rec_one _) ?_) | fail)
      rw [hWF.out]
      exact bodyPost_ret (v := .agg T.cells.toArray) (results_one Tryz.results130 rfl HLF.out) rfl ⟨T, rfl, HR, HE.out.1, HE.out.2⟩
end Go.Proofs.YtickiokdcbeefaaGreatDoor
