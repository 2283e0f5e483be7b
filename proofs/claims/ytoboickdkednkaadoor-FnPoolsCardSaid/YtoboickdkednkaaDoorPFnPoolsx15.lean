/- Several texts in one, in their order. -/
import Derived.Test.YtoboickdkednkaaDoorPFnPoolsx14
import Derived.Deep.LoopGhost
import Derived.Test.YtoboickdkednkaaDoorPFnPoolsx12
import Derived.Deep.MidRow
import Derived.Laws.Tables
import Derived.Test.YtoboickdkednkaaDoorPFnPoolsx9
import Derived.Test.YtoboickdkednkaaDoorPFnPoolsx8
import Derived.Test.YtoboickdkednkaaDoorPFnPoolsx11
import Derived.Test.YtoboickdkednkaaDoorPFnPoolsx6
import Derived.Deep.RegionHeld3
import Derived.Test.YtoboickdkednkaaDoorPFnPoolsx1
/- Who goes from a pool that is full: the walk of spec.l6Victim. -/
namespace Go.Proofs.YtoboickdkednkaaDoor
open Go.RowKit

def zeroStV : SeatV := zeroSt.v
def coldV (s : SeatV) : SeatV := { s with hot := false }
/-- From the hand on: a seat that is hot is so no longer; the first one that is not. -/
def victimV : Nat → List SeatV → Nat → List SeatV × Nat × Nat
  | 0, ss, h => (ss, h, 0)
  | n + 1, ss, h => if (ss.getD h zeroStV).hot = true then victimV n (ss.set h (coldV (ss.getD h zeroStV))) ((h + 1) % 3) else (ss, (h + 1) % 3, h)
def hots (ss : List SeatV) : Nat := (ss.filter (·.hot)).length
def SeatA.cold (s : SeatA) : SeatA := { s with hot := false }
theorem cold_v (s : SeatA) : s.cold.v = coldV s.v := rfl
theorem seatV_at (ls : List SeatA) (k : Nat) : (ls.map SeatA.v).getD k zeroStV = (ls.getD k zeroSt).v := by
  simp only [List.getD, List.getElem?_map]
  cases ls[k]? <;> rfl
theorem seat_set (ls : List SeatA) (k : Nat) (s : SeatA) (hk : k < ls.length) : ls.set k s = ls.take k ++ s :: ls.drop (k + 1) := by
  rw [List.set_eq_take_append_cons_drop, if_pos hk]
theorem hots_set (ls : List SeatV) (k : Nat) (hk : k < ls.length) (hh : (ls.getD k zeroStV).hot = true) : hots (ls.set k (coldV (ls.getD k zeroStV))) + 1 = hots ls := by
  induction ls generalizing k with
  | nil => simp at hk
  | cons s r ih =>
    cases k with
    | zero =>
      simp only [List.getD_cons_zero] at hh
      simp [hots, coldV, hh]
    | succ k =>
      simp only [List.getD_cons_succ] at hh ⊢
      have := ih k (by simpa using hk) hh
      simp only [hots, List.set_cons_succ, List.filter_cons] at this ⊢
      split <;> simp_all <;> omega
theorem hots_le (ls : List SeatV) : hots ls ≤ ls.length := List.length_filter_le _ _
theorem victim_len (n : Nat) (ls : List SeatV) (h : Nat) : (victimV n ls h).1.length = ls.length := by
  induction n generalizing ls h with
  | zero => rfl
  | succ n ih =>
    rw [victimV]
    split
    · rw [ih]; simp
    · rfl
theorem victim_hand (n : Nat) (ls : List SeatV) (h : Nat) (hh : h < 3) : (victimV n ls h).2.1 < 3 ∧ (victimV n ls h).2.2 < 3 := by
  induction n generalizing ls h with
  | zero => exact ⟨hh, by show 0 < 3; omega⟩
  | succ n ih =>
    rw [victimV]
    split
    · exact ih _ _ (Nat.mod_lt _ (by omega))
    · exact ⟨Nat.mod_lt _ (by omega), hh⟩

theorem victim_step (n : Nat) (ts : List SeatA) (k : Nat) : victimV (n + 1) (ts.map SeatA.v) k = if (ts.getD k zeroSt).hot = true then victimV n ((ts.map SeatA.v).set k (coldV (ts.getD k zeroSt).v)) ((k + 1) % 3) else (ts.map SeatA.v, (k + 1) % 3, k) := by
  rw [victimV, seatV_at]
  rfl

structure PoolAt (w : World) (lo hi B o : Nat) (vs : List Value) (t : TypeId) (a : Option Addr) (c : Nat) (ss : List SeatA) (hand : Int) : Prop where
  box : Box w B vs t
  c0 : vs[o]? = some (.slice a ss.length c)
  c1 : vs[o + 1]? = some (.int .i64 hand)
  own : OwnSts w lo hi a c ss
  off : B ∉ blocksSts a c ss
theorem blocksSts_len {a : Option Addr} {c n : Nat} {ss ts : List SeatA} (h : ss.length = n) (h2 : ts.length = n) (hb : ss.flatMap SeatA.blocks = ts.flatMap SeatA.blocks) : blocksSts a c ss = blocksSts a c ts := by
  unfold blocksSts; rw [h, h2, hb]
theorem cold_blocks (ls : List SeatA) (k : Nat) (hk : k < ls.length) : (ls.set k (ls.getD k zeroSt).cold).flatMap SeatA.blocks = ls.flatMap SeatA.blocks := by
  rw [seat_set _ _ _ hk]
  conv => rhs; rw [seatD_split ls k hk]
  simp only [List.flatMap_append, List.flatMap_cons]
  rfl

set_option maxHeartbeats 2000000 in
set_option maxRecDepth 100000 in
theorem l6Victim_any (lo hi B o : Nat) (vs : List Value) (t : TypeId) (a : Option Addr) (c : Nat) (ss : List SeatA) (h : Nat) (w : World) (hp : PoolAt w lo hi B o vs t a c ss h) (h3 : ss.length = 3) (hh : h < 3) :
    Calls Tryd.prog 45 #[.pointer (some ⟨B, o, none⟩)] w fun r w' => ∃ (ts : List SeatA) (k hand : Nat), r = .returned (.int .i64 k) ∧ Hid (victimV 4 (ss.map SeatA.v) h = (ts.map SeatA.v, hand, k)) ∧ ts.length = 3 ∧ PoolAt w' lo hi B o (vs.set (o + 1) (.int .i64 hand)) t a c ts hand ∧ Hid (blocksSts a c ts = blocksSts a c ss) ∧ Touch (B :: blocksSts a c ss) w w' := by
  have hv1 : o + 1 < vs.length := (List.getElem?_eq_some_iff.1 hp.c1).1
  go_enter Tryd.func45, Tryd.ntmps45
  go_wp2_with fail
  go_loopg [2] 4 (fun n v wr => ∃ (ts : List SeatA) (k : Nat), v = .int .i64 0 ∧ k < 3 ∧ ts.length = 3 ∧ PoolAt wr lo hi B o (vs.set (o + 1) (.int .i64 (k : Int))) t a c ts k ∧ Hid (victimV 4 (ss.map SeatA.v) h = victimV n (ts.map SeatA.v) k) ∧ hots (ts.map SeatA.v) < n ∧ Hid (blocksSts a c ts = blocksSts a c ss) ∧ Touch (B :: blocksSts a c ss) w wr)
  case atStart =>
    have e : vs.set (o + 1) (.int .i64 (h : Int)) = vs := by
      obtain ⟨_, hg⟩ := List.getElem?_eq_some_iff.1 hp.c1
      rw [← hg]; simp
    refine ⟨ss, h, rfl, hh, h3, by rw [e]; exact hp, rfl, ?_, rfl, Touch.refl _ _⟩
    have := hots_le (ss.map SeatA.v)
    rw [List.length_map] at this
    omega
  case round =>
    obtain ⟨ts, k, rfl, hk, hlen, pt, hv, hhot, hbl, htc⟩ := hrel
    clear hp h3 hh
    have vlen : (vs.set (o + 1) (.int .i64 (k : Int))).length = vs.length := by simp
    have x1 : wr.cell? ⟨B, o + 1, none⟩ = some (.int .i64 (k : Int)) := pt.box.cell (o + 1) _ pt.c1
    have f1 := pt.box.frozen (o + 1)
    obtain ⟨g, rfl⟩ : ∃ g, a = some ⟨g, 0, none⟩ := by
      rcases pt.own.row.2 with ⟨_, h0⟩ | ⟨g, cap', cur, hv, _⟩
      · omega
      · simp only [Value.slice.injEq] at hv; exact ⟨g, hv.1⟩
    have hmem : g ∈ blocksSts (some ⟨g, 0, none⟩) c ts := by simp [blocksSts, Value.ownBlock]
    have hgB : B ≠ g := fun e => pt.off (e ▸ hmem)
    obtain ⟨W1, hW1, b1, hw1, hs1⟩ := box_set pt.box (o + 1) (.int .i64 (((k + 1) % 3 : Nat) : Int))
    rw [List.set_set] at b1
    have t1 : Touch [B] wr W1 := ⟨hw1.os, hw1.tape, hw1.output, hw1.size, fun j hj hn => hw1.block j hj (fun hh => hn (by simp; omega))⟩
    have o1 : OwnSts W1 lo hi (some ⟨g, 0, none⟩) c ts := pt.own.touch t1 (fun j hj hh => pt.off (by rw [← List.mem_singleton.1 hh]; exact hj))
    have c0 : (vs.set (o + 1) (.int .i64 (((k + 1) % 3 : Nat) : Int)))[o]? = some (.slice (some ⟨g, 0, none⟩) ts.length c) := by
      have := pt.c0
      rw [List.getElem?_set_ne (by omega)] at this ⊢
      exact this
    have c1 : (vs.set (o + 1) (.int .i64 (((k + 1) % 3 : Nat) : Int)))[o + 1]? = some (.int .i64 (((k + 1) % 3 : Nat) : Int)) := List.getElem?_set_self hv1
    have y0 := b1.cell o _ c0
    have C0 : Hid (_ = _) := c0
    have C1 : Hid (_ = _) := c1
    have r1 := (row_seat o1.row rfl k (by omega)).1 19 _ (show (ts.getD k zeroSt).cells[19]? = some (.bool (ts.getD k zeroSt).hot) from rfl)
    have rf1 := o1.row.frozenAt (k * 20 + 19)
    have HT1 : Hid (Touch (B :: blocksSts (some ⟨g, 0, none⟩) c ss) w W1) := htc.trans (t1.mono (by simp))
    have hoff : B ∉ blocksSts (some ⟨g, 0, none⟩) c ts := pt.off
    have HST : Hid (victimV 4 (ss.map SeatA.v) h = victimV gk (ts.map SeatA.v) k) := hv
    have hkb : (k : Int) < (ts.length : Int) := by omega
    have hk0 : (0 : Int) ≤ (k : Int) := by omega
    have HM : Hid (wr.setCell ⟨B, o + 1, none⟩ (.int .i64 (((k + 1) % 3 : Nat) : Int)) = W1) := hW1
    have HMOD : Hid (((k : Int) + 1) % 3 = (((k + 1) % 3 : Nat) : Int)) := by rw [Hid]; omega
    have hl1 : ts.length ≤ 3 := by omega
    have hl2 : 3 ≤ ts.length := by omega
    clear hW1 hw1 hs1 t1 pt hv htc vlen c0 c1 hlen hv1
    cases gk with
    | zero => exact absurd hhot (Nat.not_lt_zero _)
    | succ n =>
      have HST2 : Hid (victimV 4 (ss.map SeatA.v) h = if (ts.getD k zeroSt).hot = true then victimV n ((ts.map SeatA.v).set k (coldV (ts.getD k zeroSt).v)) ((k + 1) % 3) else (ts.map SeatA.v, (k + 1) % 3, k)) := by
        rw [Hid, HST.out]
        exact victim_step n ts k
      go_upto_region 3 with fail
      rw [HMOD.out, HM.out]
      clear HM HMOD HST x1 f1
      generalize hz : ts.getD k zeroSt = z at *
      cases hht : z.hot with
      | true =>
        rw [hht] at r1
        obtain ⟨o2, t2⟩ := OwnSts.cellSet (A := ts.take k) (z := z) (B := ts.drop (k + 1)) (z' := z.cold) (by rw [← hz, ← seatD_split ts k (by omega)]; exact o1) 19 (.bool false) (by omega) rfl rfl
        have hkl : (ts.take k).length = k := by rw [List.length_take]; omega
        rw [hkl, ← seat_set ts k _ (by omega)] at o2
        rw [hkl] at t2
        obtain ⟨W2, hW2⟩ : ∃ W2, Hid (W1.setCell ⟨g, k * 20 + 19, none⟩ (.bool false) = W2) := ⟨_, rfl⟩
        rw [hW2.out] at o2 t2
        have HO2 : Hid (_) := o2
        have b2 := b1.touch t2 (by simpa using hgB)
        have HST3 : Hid (victimV 4 (ss.map SeatA.v) h = victimV n ((ts.map SeatA.v).set k (coldV z.v)) ((k + 1) % 3)) := by
          have := HST2.out; rw [hht, if_pos rfl] at this; exact this
        have HH : Hid (hots ((ts.set k z.cold).map SeatA.v) < n) := by
          have e := hots_set (ts.map SeatA.v) k (by rw [List.length_map]; omega) (by rw [seatV_at, hz]; exact hht)
          rw [seatV_at, hz] at e
          rw [Hid, List.map_set, cold_v]
          omega
        have HB2 : Hid (blocksSts (some ⟨g, 0, none⟩) c (ts.set k z.cold) = blocksSts (some ⟨g, 0, none⟩) c ss) := by
          rw [Hid, ← hbl.out]
          have e := cold_blocks ts k (by omega)
          rw [hz] at e
          exact blocksSts_len (n := ts.length) (by simp) rfl e
        have HT2 : Hid (Touch (B :: blocksSts (some ⟨g, 0, none⟩) c ss) w W2) := HT1.out.trans (t2.mono (fun j hj => List.mem_cons_of_mem _ (by rw [← hbl.out, List.mem_singleton.1 hj]; exact hmem)))
        clear o1 o2 t2 HST2 hz HT1 hhot
        go_wp2_with fail
        rw [hW2.out]
        go_roundg n
        case measure => omega
        case rel => exact ⟨ts.set k z.cold, (k + 1) % 3, rfl, Nat.mod_lt _ (by omega), by rw [List.length_set]; omega, ⟨b2, by rw [List.length_set]; exact C0.out, C1.out, HO2.out, by rw [HB2.out, ← hbl.out]; exact hoff⟩, by rw [Hid, HST3.out, List.map_set, cold_v], HH.out, HB2, HT2.out⟩
      | false =>
        rw [hht] at r1
        have HST3 : Hid (victimV 4 (ss.map SeatA.v) h = (ts.map SeatA.v, (k + 1) % 3, k)) := by
          have := HST2.out; rw [hht, if_neg (by decide)] at this; exact this
        have HO1 : Hid (_) := o1
        clear HST2 hz o1
        go_wp2_with fail
        go_ret
        exact ⟨ts, k, (k + 1) % 3, rfl, HST3, by omega, ⟨b1, C0.out, C1.out, HO1.out, hoff⟩, hbl, HT1.out⟩
end Go.Proofs.YtoboickdkednkaaDoor

/- A seat made by a literal. -/
namespace Go.Proofs.YtoboickdkednkaaDoor
open Go.RowKit

set_option maxHeartbeats 1000000 in
set_option maxRecDepth 100000 in
theorem build_seat {w : World} {ops : Array Oper} {rest : List Oper} {dst : Option Nat} {ty : TypeId} {pos : String} {aft : Array Edge} {act : Act} {Q : Exit → Act → World → Prop} (x y : Operand) (no lsn : Int) (a b c d : SlotA)
    (hx : act.eval x = .int .i64 no) (hy : act.eval y = .agg (PageA.cells ⟨lsn, [a, b, c, d]⟩).toArray)
    (h : wpList Tryd.prog ops Q rest (act.put dst (.agg (SeatA.cells ⟨no, lsn, a, b, c, d, false, true⟩).toArray)) w) :
    wpList Tryd.prog ops Q ({ dst := dst, op := .build 38 #[(0, x), (1, y), (3, .const (.bool true))], type := ty, pos := pos, after := aft, guard := none } :: rest) act w := by
  refine wpList_plain rfl fun K hK => ?_
  unfold Oper.wp execOp
  simp only [List.map_toArray, List.map_cons, List.map_nil, hx, hy]
  have e : (Instr.build 38 #[(0, Value.int .i64 no), (1, Value.agg (PageA.cells ⟨lsn, [a, b, c, d]⟩).toArray), (3, Value.bool true)]).run Tryd.prog w = .ok (.agg (SeatA.cells ⟨no, lsn, a, b, c, d, false, true⟩).toArray) w := run_build w _ _ _ (by kernel_rfl)
  have ec : act.eval (.const (.bool true)) = .bool true := rfl
  rw [ec]
  simp only [Sem.run_bind, e, Result.andThen_ok, Sem.run_pure]
  exact hK _ _ h
theorem build_zero_seat {w : World} {ops : Array Oper} {rest : List Oper} {dst : Option Nat} {ty : TypeId} {pos : String} {aft : Array Edge} {act : Act} {Q : Exit → Act → World → Prop}
    (h : wpList Tryd.prog ops Q rest (act.put dst (.agg zeroSt.cells.toArray)) w) :
    wpList Tryd.prog ops Q ({ dst := dst, op := .build 38 #[], type := ty, pos := pos, after := aft, guard := none } :: rest) act w := by
  refine wpList_plain rfl fun K hK => ?_
  unfold Oper.wp execOp
  have e : (Instr.build 38 #[]).run Tryd.prog w = .ok (.agg zeroSt.cells.toArray) w := run_build w _ _ _ (by kernel_rfl)
  simp only [List.map_toArray, List.map_nil, Sem.run_bind, e, Result.andThen_ok, Sem.run_pure]
  exact hK _ _ h
theorem lit_seat (q : SeatA) : List.foldl (fun cs x => cs.setIfInBounds x.snd x.fst) (#[.int .i64 0, .int .i64 0, .bool false, .int .i64 0, .slice none 0 0, .slice none 0 0, .bool false, .int .i64 0, .slice none 0 0, .slice none 0 0, .bool false, .int .i64 0, .slice none 0 0, .slice none 0 0, .bool false, .int .i64 0, .slice none 0 0, .slice none 0 0, .bool false, .bool false] : Array Value) q.cells.zipIdx = q.cells.toArray := by simp [SeatA.cells, SlotA.cells, List.zipIdx]
theorem seat_one (q : SeatA) : q.cells.toArray.all (·.oneCell') = true := all_oneCell_toArray (oneSt q)
theorem seat_info (q : SeatA) : (Tryd.prog.info? 38).map (·.size) = some q.cells.length := by show _ = some 20; kernel_rfl
theorem seat_load {w : World} {C : Nat} (q : SeatA) (b : Box w C q.cells 38) : (loadVar 38 ⟨C, 0, none⟩).run Tryd.prog w = .ok (.agg q.cells.toArray) w :=
  run_loadVar_mid (P := Tryd.prog) w C 0 38 q.cells _ (Box.range [] q.cells [] (by simpa using b)) Tryd.underlying38 rfl (seat_info q)
theorem seat_out {w : World} {C : Nat} (q : SeatA) (old : List Value) (ho : old.length = 20) (bC : Box w C old 38) :
    ∃ WF, Hid (w.setCells C 0 q.cells = WF) ∧ Within C (C + 1) w WF ∧ WF.heap.size = w.heap.size ∧ Hid (w.there C 0 q.cells.toArray.size) ∧ Hid ((loadVar 38 ⟨C, 0, none⟩).run Tryd.prog WF = .ok (.agg q.cells.toArray) WF) ∧ Box WF C q.cells 38 := by
  obtain ⟨WF, hWF, bF, hwF, hsF⟩ := range_fill [] old q.cells [] (by simpa using bC) (by rw [ho]; rfl)
  have bF' : Box WF C q.cells 38 := by simpa using bF
  exact ⟨WF, hWF, hwF, hsF, bC.there 0 _ (by rw [ho]; show 0 + 20 ≤ 20; decide), seat_load q bF', bF'⟩
end Go.Proofs.YtoboickdkednkaaDoor

/- Pools: what they are, what a walk reads and owns of them. -/
namespace Go.Proofs.YtoboickdkednkaaDoor
open Go.RowKit

structure PoolV where
  seats : List SeatV
  hand : Int
/-- A pool, and where its row lies. -/
structure PoolA where
  seats : List SeatA
  hand : Int
  a : Option Addr
  c : Nat
def PoolA.v (l : PoolA) : PoolV := ⟨l.seats.map SeatA.v, l.hand⟩
def PoolA.cells (l : PoolA) : List Value := [.slice l.a l.seats.length l.c, .int .i64 l.hand]
def PoolA.reads (w : World) (l : PoolA) : Prop := ReadsSts w l.a l.seats
def PoolA.own (w : World) (lo hi : Nat) (l : PoolA) : Prop := OwnSts w lo hi l.a l.c l.seats
/-- A seat whose lists are short. -/
def SeatA.short (s : SeatA) (m : Nat) : Prop := ∀ x ∈ s.ss, x.v.o.ints.length ≤ m ∧ x.v.o.refs.length ≤ m
structure PoolA.short (l : PoolA) (m : Nat) : Prop where
  len : l.seats.length ≤ m
  each : ∀ r ∈ l.seats, r.short m
theorem PoolA.short.at {l : PoolA} {m : Nat} (h : l.short m) (k : Nat) (hk : k < l.seats.length) : (l.seats.getD k zeroSt).short m := h.each _ (seatD_mem _ k hk)
theorem SeatA.short.wide {s : SeatA} (h : s.short 1048576) : s.short 1099511627776 := fun x hx => by have := h x hx; omega
theorem PoolA.short_wide {l : PoolA} (hl : l.short 1048576) : l.short 1099511627776 := ⟨by have := hl.len; omega, fun r hr => (hl.each r hr).wide⟩
theorem zeroSt_own' (w : World) (lo hi : Nat) (h : hi ≤ w.heap.size) : zeroSt.own w lo hi := ⟨fun s hs => by
  simp only [SeatA.ss, zeroSt, List.mem_cons, List.not_mem_nil, or_false] at hs
  have : s = zeroS := by rcases hs with h | h | h | h <;> exact h
  subst this
  exact ⟨ownI_nil w lo hi h, ownI_nil w lo hi h, fun k h1 _ => by cases h1⟩, by show ([] : List Nat).Nodup; simp⟩
theorem four_slots' {ts : List SlotA} (h : ts.length = 4) : ∃ a b c d, ts = [a, b, c, d] := by
  match ts, h with
  | [a, b, c, d], _ => exact ⟨a, b, c, d, rfl⟩
end Go.Proofs.YtoboickdkednkaaDoor

/- What the laws of pages share. -/
namespace Go.Proofs.YtoboickdkednkaaDoor
open Go.RowKit

end Go.Proofs.YtoboickdkednkaaDoor

/- The walks of laws.toSeat, szSeat, eqSeat. -/
namespace Go.Proofs.YtoboickdkednkaaDoor
open Go.RowKit

theorem Tryd.infoPg (p : PageA) (h : p.ss.length = 4) : (Tryd.prog.info? 34).map (·.size) = some p.cells.length := by rw [page_len p h]; kernel_rfl
theorem page_one (p : PageA) : p.cells.toArray.all (·.oneCell') = true := all_oneCell_toArray (oneP p)
/-- The page of a seat that lies in a box. -/
theorem seat_page {w : World} {B : Nat} {t : TypeId} (s : SeatA) (b : Box w B s.cells t) : w.rangeAt B 1 s.page.cells := by
  rw [SeatA.cells_page] at b
  exact Box.range [.int .i64 s.no] s.page.cells [.bool s.dirty, .bool s.hot] b
/-- The page of a seat in a box, stored. -/
theorem seat_fill {w : World} {B : Nat} {t : TypeId} (s : SeatA) (b : Box w B s.cells t) (lsn : Int) (a b' c d : SlotA) :
    ∃ W, Hid (w.setCells B 1 (PageA.cells ⟨lsn, [a, b', c, d]⟩) = W) ∧ Box W B (SeatA.cells ⟨s.no, lsn, a, b', c, d, s.dirty, s.hot⟩) t ∧ Within B (B + 1) w W ∧ W.heap.size = w.heap.size ∧ w.there B 1 (PageA.cells ⟨lsn, [a, b', c, d]⟩).toArray.size := by
  have hth : w.there B 1 (PageA.cells ⟨lsn, [a, b', c, d]⟩).toArray.size := b.there 1 _ (by rw [List.size_toArray]; show 1 + 17 ≤ 20; decide)
  rw [SeatA.cells_page] at b
  obtain ⟨W, hW, bW, hw, hs⟩ := range_fill [.int .i64 s.no] s.page.cells (PageA.cells ⟨lsn, [a, b', c, d]⟩) [.bool s.dirty, .bool s.hot] b rfl
  refine ⟨W, hW, ?_, hw, hs, hth⟩
  rw [SeatA.cells_page]
  exact bW

end Go.Proofs.YtoboickdkednkaaDoor

/- The walks of laws.toSeatS, toPool, szSeatS, szPool, eqSeatS, eqPool. -/
namespace Go.Proofs.YtoboickdkednkaaDoor
open Go.RowKit

/-- The first k of a row have come. -/
def CameSt (rs ts : List SeatA) (k : Nat) : Prop := ts.length = k ∧ ts.map SeatA.v = (rs.take k).map SeatA.v
theorem cameSt_none (rs : List SeatA) : CameSt rs [] 0 := ⟨rfl, by simp⟩
theorem CameSt.snoc {rs ts : List SeatA} {k : Nat} (h : CameSt rs ts k) (hk : k < rs.length) {q : SeatA} (hq : q.v = (rs.getD k zeroSt).v) : CameSt rs (ts ++ [q]) (k + 1) := by
  refine ⟨by simp [h.1], ?_⟩
  have e : rs.getD k zeroSt = rs[k] := by simp [List.getD, hk]
  rw [List.map_append, h.2, List.take_succ_eq_append_getElem hk, List.map_append, List.map_singleton, List.map_singleton, hq, e]
theorem CameSt.all {rs ts : List SeatA} (h : CameSt rs ts rs.length) : ts.map SeatA.v = rs.map SeatA.v := by
  have := h.2
  rwa [List.take_length] at this
theorem rangeSt_below {w w' : World} {b o : Nat} {r : SeatA} (h : w.rangeAt b o r.cells) (hb : Below w.heap.size w w') : w'.rangeAt b o r.cells := rangeAt_below h hb (rangeSt_lt h)

end Go.Proofs.YtoboickdkednkaaDoor

/- What came in, read: a seat, a pool. -/
namespace Go.Proofs.YtoboickdkednkaaDoor
open Go.ChangeShapes Go.WideShapes Go.ChangeAt Go.RowKit

/-- A seat as it came in. -/
structure InSeat (w : World) (s : SeatA) : Prop where
  slots : ∀ x ∈ s.ss, InSlot w x
  no : InI64 s.no
  lsn : InI64 s.lsn
theorem InSeat.reads {w : World} {s : SeatA} (h : InSeat w s) : s.reads w := fun x hx => (h.slots x hx).reads
theorem InSeat.short {w : World} {s : SeatA} (h : InSeat w s) : s.short 9223372036854775807 := fun x hx => by
  have h1 := (h.slots x hx).lI
  have h2 := (h.slots x hx).lR
  simp only [maxLen] at h1 h2
  omega
/-- A pool as it came in. -/
structure InPool (w : World) (l : PoolA) : Prop where
  seats : ReadsSts w l.a l.seats
  each : ∀ r ∈ l.seats, InSeat w r
  len : l.seats.length ≤ maxLen
  num : InI64 l.hand
theorem InPool.short {w : World} {l : PoolA} (h : InPool w l) : l.short 9223372036854775807 := ⟨by have := h.len; simp only [maxLen] at this; omega, fun r hr => (h.each r hr).short⟩
theorem InPool.reads {w : World} {l : PoolA} (h : InPool w l) : l.reads w := h.seats

section
variable {H : Type} {enc : TypeId × Value → H} {w : World} {base : Nat} {spare : Nat → Bool} {held : Bool}

end
end Go.Proofs.YtoboickdkednkaaDoor

/- What the laws of pools share. -/
namespace Go.Proofs.YtoboickdkednkaaDoor
open Go.RowKit

theorem PoolA.reads.below {w w' : World} {l : PoolA} (h : l.reads w) (hb : Below w.heap.size w w') : l.reads w' := ReadsSts.below h hb
theorem PoolA.own.reads {w : World} {lo hi : Nat} {l : PoolA} (h : l.own w lo hi) : l.reads w := OwnSts.reads h
theorem PoolA.own.below {w w' : World} {lo hi : Nat} {l : PoolA} (h : l.own w lo hi) (hb : Below w.heap.size w w') : l.own w' lo hi := OwnSts.below h hb
theorem PoolA.own.within {w w' : World} {lo hi a b : Nat} {l : PoolA} (h : l.own w lo hi) (hw : Within a b w w') (hd : hi ≤ a ∨ b ≤ lo) : l.own w' lo hi := OwnSts.within h hw hd
theorem PoolA.own.widen {w : World} {lo hi lo' hi' : Nat} {l : PoolA} (h : l.own w lo hi) (h1 : lo' ≤ lo) (h2 : hi ≤ hi') (h3 : hi' ≤ w.heap.size) : l.own w lo' hi' := OwnSts.widen h h1 h2 h3
def PoolA.blocks (l : PoolA) : List Nat := blocksSts l.a l.c l.seats
theorem PoolA.own.blocks_lt {w : World} {lo hi : Nat} {l : PoolA} (h : l.own w lo hi) : ∀ k ∈ l.blocks, lo ≤ k ∧ k < hi := OwnSts.blocks_lt h
theorem PoolA.own.touch {w w' : World} {lo hi : Nat} {l : PoolA} {bl : List Nat} (h : l.own w lo hi) (ht : Touch bl w w') (hd : ∀ k ∈ l.blocks, k ∉ bl) : l.own w' lo hi := OwnSts.touch h ht hd
theorem onePool (l : PoolA) : ∀ v ∈ l.cells, v.oneCell' = true := by
  intro v hv
  simp only [PoolA.cells, List.mem_cons, List.not_mem_nil, or_false] at hv
  rcases hv with rfl | rfl <;> rfl
theorem pool_one (q : PoolA) : q.cells.toArray.all (·.oneCell') = true := all_oneCell_toArray (onePool q)
theorem pool_info (q : PoolA) : (Tryd.prog.info? 26).map (·.size) = some q.cells.length := by show _ = some 2; kernel_rfl
theorem pool_load {w : World} {C : Nat} (q : PoolA) (b : Box w C q.cells 26) : (loadVar 26 ⟨C, 0, none⟩).run Tryd.prog w = .ok (.agg q.cells.toArray) w :=
  run_loadVar_mid (P := Tryd.prog) w C 0 26 q.cells _ (Box.range [] q.cells [] (by simpa using b)) Tryd.underlying26 rfl (pool_info q)
theorem pool_out {w : World} {C : Nat} (q : PoolA) (old : List Value) (ho : old.length = 2) (bC : Box w C old 26) :
    ∃ WF, Hid (w.setCells C 0 q.cells = WF) ∧ Within C (C + 1) w WF ∧ WF.heap.size = w.heap.size ∧ Hid (w.there C 0 q.cells.toArray.size) ∧ Hid ((loadVar 26 ⟨C, 0, none⟩).run Tryd.prog WF = .ok (.agg q.cells.toArray) WF) ∧ Box WF C q.cells 26 := by
  obtain ⟨WF, hWF, bF, hwF, hsF⟩ := range_fill [] old q.cells [] (by simpa using bC) (by rw [ho]; rfl)
  have bF' : Box WF C q.cells 26 := by simpa using bF
  exact ⟨WF, hWF, hwF, hsF, bC.there 0 _ (by rw [ho]; show 0 + 2 ≤ 2; decide), pool_load q bF', bF'⟩
end Go.Proofs.YtoboickdkednkaaDoor

/- The walks of spec.l6Draw and spec.l6DrawAny. -/
namespace Go.Proofs.YtoboickdkednkaaDoor
open Go.RowKit

/-- Some pool was drawn, its lists short. -/
def PoolDrawn (n : Nat) (w w' : World) (B : Nat) (zs : List Int) (e : Ending) : Prop := ∃ t : PoolA, e = .returned (.agg t.cells.toArray) ∧ (t.seats.length ≤ n ∧ t.short 7) ∧ t.own w' w.heap.size w'.heap.size ∧ CurAt w' B zs ∧ Within B (B + 1) w w'
theorem run_next' {P : Program} {w w' : World} {m : Sem Value} {v : Value} (h : m.run P w = .ok v w') : (do let r ← m; pure (Next.value r) : Sem Next).run P w = .ok (.value v) w' := by simp only [Sem.run_bind, h, Result.andThen_ok, Sem.run_pure]
set_option maxHeartbeats 1000000 in
set_option maxRecDepth 100000 in
theorem run_build_seat (w : World) (no lsn : Int) (a b c d : SlotA) (x y : Bool) : (Instr.build 38 #[(0, Value.int .i64 no), (1, Value.agg (PageA.cells ⟨lsn, [a, b, c, d]⟩).toArray), (2, Value.bool x), (3, Value.bool y)]).run Tryd.prog w = .ok (.agg (SeatA.cells ⟨no, lsn, a, b, c, d, x, y⟩).toArray) w := run_build w _ _ _ (by kernel_rfl)
set_option maxHeartbeats 1000000 in
set_option maxRecDepth 100000 in
theorem run_build_seat1 (w : World) (no : Int) : (Instr.build 38 #[(0, Value.int .i64 no)]).run Tryd.prog w = .ok (.agg (SeatA.cells ⟨no, 0, zeroS, zeroS, zeroS, zeroS, false, false⟩).toArray) w := run_build w _ _ _ (by kernel_rfl)
theorem int5 (j : Nat) : ∃ m : Nat, ([3, 3, 2, 1, 0] : List Int).getD j 0 = (m : Int) ∧ m ≤ 3 := by
  match j with
  | 0 => exact ⟨3, rfl, by omega⟩
  | 1 => exact ⟨3, rfl, by omega⟩
  | 2 => exact ⟨2, rfl, by omega⟩
  | 3 => exact ⟨1, rfl, by omega⟩
  | 4 => exact ⟨0, rfl, by omega⟩
  | j + 5 => exact ⟨0, by simp [List.getD], by omega⟩

set_option maxHeartbeats 8000000 in
set_option maxRecDepth 100000 in
theorem l6Draw_any (B : Nat) (zs : List Int) (w : World) (hc : CurAt w B zs) (hl : zs.length ≤ 70368744177664) :
    Calls Tryd.prog 37 #[.pointer (some ⟨B, 0, none⟩)] w fun e w' => PoolDrawn 3 w w' B zs e := by
  have hB := hc.lt
  obtain ⟨W, hW, b0, hbW, hsW⟩ := boxes1 w [.slice none 0 0, .int .i64 0] 26
  have hcW : CurAt W B zs := hc.below hbW
  have hsW' : w.heap.size < W.heap.size := by omega
  clear hsW hc
  go_enter Tryd.func37, Tryd.ntmps37
  go_wp2_with fail
  rw [hW.out]
  clear hW
  refine (l1Below_any B zs 3 W hcW hl (by omega)).mono ?_
  rintro e w1 ⟨x, rfl, _, hc1, hg1⟩
  have hw1 := within_cur hg1
  have hs1 := hw1.size
  have b1 := b0.within hw1 (by omega)
  have HW1 : Within B (B + 1) w w1 := (Within.of_below hbW).trans hw1
  clear b0 hg1 hw1 hcW hbW
  obtain ⟨W2, hW2, b2, hb2, hs2⟩ := boxes1 w1 [.slice none 0 0, .int .i64 (x : Int)] 26
  have b02 := b1.below hb2 b1.lt
  have hc2 : CurAt W2 B zs := hc1.below hb2
  have HW2 : Within B (B + 1) w W2 := HW1.trans (Within.of_below hb2)
  have hlt2 : w1.heap.size < W2.heap.size := b2.lt
  clear b1 hb2 HW1 hc1 hs2
  go_wp2_with fail
  rw [hW2.out]
  clear hW2
  refine (l1Below_any B zs 3 W2 hc2 hl (by omega)).mono ?_
  rintro e w3 ⟨n0, rfl, hn0, hc3, hg3⟩
  replace hn0 : n0 < 3 := by have := hn0 (by omega); omega
  have hw3 := within_cur hg3
  have hs3 := hw3.size
  have b03 := b02.within hw3 (by omega)
  have b3 := b2.within hw3 (by omega)
  have HW3 := HW2.trans hw3
  clear b02 b2 HW2 hc2 hg3 hw3
  obtain ⟨W4, hW4, b4, hb4, hs4⟩ := boxes1 w3 [.int .i64 3, .int .i64 3, .int .i64 2, .int .i64 1, .int .i64 0] 3
  have hrl : ReadsI W4 (some ⟨w3.heap.size, 0, none⟩) [3, 3, 2, 1, 0] := fun _ => ⟨w3.heap.size, 0, rfl, fun i hi => by
    match i, hi with
    | 0, _ => exact b4.cell 0 _ rfl
    | 1, _ => exact b4.cell 1 _ rfl
    | 2, _ => exact b4.cell 2 _ rfl
    | 3, _ => exact b4.cell 3 _ rfl
    | 4, _ => exact b4.cell 4 _ rfl⟩
  have hB3 : B < w3.heap.size := hc3.lt
  go_wp2_with fail
  rw [hW4.out]
  clear hW4
  refine (l1Int_any B zs (some ⟨w3.heap.size, 0, none⟩) 5 [3, 3, 2, 1, 0] W4 (hc3.below hb4) hl hrl (fun b off e => by cases e; omega) (by simp) (by simp)).mono ?_
  rintro e w5 ⟨j, hj, rfl, hc5, hg5⟩
  obtain ⟨m0, hm0, hm3⟩ := int5 j
  rw [hm0]
  have hw5 := within_cur hg5
  have hs5 := hw5.size
  have hs34 := hb4.size
  have b05 := (b03.below hb4 b03.lt).within hw5 (by omega)
  have b5 := (b3.below hb4 b3.lt).within hw5 (by omega)
  have HW5 := (HW3.trans (Within.of_below hb4)).trans hw5
  clear b03 b3 HW3 hb4 hw5 hg5 hc3 hrl b4 hj hm0 hs4
  have hs25 : W2.heap.size ≤ w5.heap.size := by omega
  go_wp2_with fail
  go_loopw [4, 5] (fun n i wr => ∃ (k m : Nat) (ts : List SeatA) (a : Option Addr) (c : Nat), n = .int .i64 k ∧ i = .int .i64 m ∧ Hid (k + 2 * m ≤ 8 ∧ ts.length + m ≤ 3 ∧ ∀ s ∈ ts, s.short 7) ∧ OwnSts wr W2.heap.size wr.heap.size a c ts ∧ Box wr w1.heap.size [.slice a ts.length c, .int .i64 (x : Int)] 26 ∧ Box wr w.heap.size [.slice none 0 0, .int .i64 0] 26 ∧ CurAt wr B zs ∧ W2.heap.size ≤ wr.heap.size ∧ Within B (B + 1) w wr)
    (fun _ i _ => (intOf i).toNat)
  case atStart => exact ⟨n0, m0, [], none, 0, rfl, rfl, ⟨by omega, by simpa using hm3, fun s hs => by simp at hs⟩, ownSts_nil _ _ _ (Nat.le_refl _), b5, b05, hc5, hs25, HW5⟩
  case round =>
    obtain ⟨k, m, ts, a, c, rfl, rfl, hts, hown, hbox, hbr, hcr, hsr, HWr⟩ := hrel
    clear b05 b5 hc5 HW5 hs25
    by_cases hlt : 0 < m
    · have hk8 : (k : Int) ≤ 8 := by have := hts.out.1; omega
      have hgt : (0 : Int) < (m : Int) := by omega
      have hm8 : m ≤ 3 := by have := hts.out.2.1; omega
      go_wp2_with fail
      have hD : Below wr.heap.size wr wr.drew := (Below.refl _ _).drew
      replace hown : OwnSts wr.drew W2.heap.size wr.heap.size a c ts := hown.below hD
      replace hbox : Box wr.drew w1.heap.size [.slice a ts.length c, .int .i64 (x : Int)] 26 := hbox.below hD hbox.lt
      replace hbr : Box wr.drew w.heap.size [.slice none 0 0, .int .i64 0] 26 := hbr.below hD hbr.lt
      replace hcr : CurAt wr.drew B zs := hcr.below hD
      replace HWr : Within B (B + 1) w wr.drew := HWr.trans (Within.of_below hD)
      have zr : wr.heap.size ≤ wr.drew.heap.size := hD.size
      clear hD
      refine wp_region_late (· == 13) (S := fun u => u.cell? ⟨w1.heap.size, 0, none⟩ = some (.slice a ts.length c)) (by kernel_rfl) (hbox.cell 0 _ rfl) (fun hHeld => ?_)
      generalize wr.drew = d1 at *
      refine wpAnyL_take (i := 0) (v := .pointer (some ⟨w1.heap.size, 0, none⟩)) rfl (by kernel_rfl) (fun _ _ _ h => h) (Or.inl ⟨by rfl, ?_⟩) hHeld ?_
      · intro w' hSw
        go_simp <;> rfl
      try simp only [Act.put, List.getElem_toArray, List.getElem_cons_zero, List.setIfInBounds_toArray, List.set_cons_zero, List.set_cons_succ]
      refine wpAnyL_take (i := 1) (v := .slice a ts.length c) rfl (by kernel_rfl) (fun _ _ _ h => h) (Or.inl ⟨by rfl, ?_⟩) hHeld ?_
      · intro w' hSw
        have hx := hSw
        go_simp <;> rfl
      try simp only [Act.put, List.getElem_toArray, List.getElem_cons_zero, List.getElem_cons_succ, List.setIfInBounds_toArray, List.set_cons_zero, List.set_cons_succ]
      refine wpAnyL_take (i := 2) (v := .int .i64 (k : Int)) rfl (by kernel_rfl) (fun _ _ _ h => h) (Or.inl ⟨by rfl, ?_⟩) hHeld ?_
      · intro w' hSw
        go_simp <;> rfl
      try simp only [Act.put, List.getElem_toArray, List.getElem_cons_zero, List.getElem_cons_succ, List.setIfInBounds_toArray, List.set_cons_zero, List.set_cons_succ]
      refine wpAnyL_take (i := 3) (v := .pointer (some ⟨B, 0, none⟩)) rfl (by kernel_rfl) (fun _ _ _ h => h) (Or.inl ⟨by rfl, ?_⟩) hHeld ?_
      · intro w' hSw
        go_simp <;> rfl
      try simp only [Act.put, List.getElem_toArray, List.getElem_cons_zero, List.getElem_cons_succ, List.setIfInBounds_toArray, List.set_cons_zero, List.set_cons_succ]
      refine wpAnyL_take (i := 5) (v := .pointer (some ⟨B, 0, none⟩)) rfl (by kernel_rfl) (fun _ _ _ h => h) (Or.inl ⟨by rfl, ?_⟩) hHeld ?_
      · intro w' hSw
        go_simp <;> rfl
      try simp only [Act.put, List.getElem_toArray, List.getElem_cons_zero, List.getElem_cons_succ, List.setIfInBounds_toArray, List.set_cons_zero, List.set_cons_succ]
      refine wpAnyL_take (i := 7) (v := .pointer (some ⟨B, 0, none⟩)) rfl (by kernel_rfl) (fun _ _ _ h => h) (Or.inl ⟨by rfl, ?_⟩) hHeld ?_
      · intro w' hSw
        go_simp <;> rfl
      try simp only [Act.put, List.getElem_toArray, List.getElem_cons_zero, List.getElem_cons_succ, List.setIfInBounds_toArray, List.set_cons_zero, List.set_cons_succ]
      refine wpAnyL_next 4 (by kernel_rfl) rfl (fun K hK => ?_)
      go_simp
      refine (l3DrawPage_any B zs d1 hcr hl).mono ?_
      clear hcr
      rintro e d2 ⟨n, ps, rfl, hps4, hpss, hop, hcr, hwa⟩
      have zhwa := hwa.size
      replace hbox := hbox.within hwa (by omega)
      replace hbr := hbr.within hwa (by omega)
      replace hown := hown.within hwa (by omega)
      replace HWr := HWr.trans hwa
      refine hK.out _ _ (hbox.cell 0 _ rfl) (fun hHeld => ?_)
      clear hK K hwa
      try simp only [Act.put, List.getElem_toArray, List.getElem_cons_zero, List.getElem_cons_succ, List.setIfInBounds_toArray, List.set_cons_zero, List.set_cons_succ]
      obtain ⟨p0, p1, p2, p3, rfl⟩ := four_slots' hps4
      clear hps4
      refine wpAnyL_next 6 (by kernel_rfl) rfl (fun K hK => ?_)
      go_simp
      refine (l1Once_any B zs 2 d2 hcr hl (by omega)).mono ?_
      clear hcr
      rintro e d3 ⟨bd, rfl, hcr, hgb⟩
      have hwb := within_cur hgb
      clear hgb
      have zhwb := hwb.size
      replace hbox := hbox.within hwb (by omega)
      replace hbr := hbr.within hwb (by omega)
      replace hown := hown.within hwb (by omega)
      replace HWr := HWr.trans hwb
      replace hop := hop.within hwb (by omega)
      refine hK.out _ _ (hbox.cell 0 _ rfl) (fun hHeld => ?_)
      clear hK K hwb
      try simp only [Act.put, List.getElem_toArray, List.getElem_cons_zero, List.getElem_cons_succ, List.setIfInBounds_toArray, List.set_cons_zero, List.set_cons_succ]
      refine wpAnyL_next 8 (by kernel_rfl) rfl (fun K hK => ?_)
      go_simp
      refine (l1Once_any B zs 2 d3 hcr hl (by omega)).mono ?_
      clear hcr
      rintro e d4 ⟨bh, rfl, hcr, hgc⟩
      have hwc := within_cur hgc
      clear hgc
      have zhwc := hwc.size
      replace hbox := hbox.within hwc (by omega)
      replace hbr := hbr.within hwc (by omega)
      replace hown := hown.within hwc (by omega)
      replace HWr := HWr.trans hwc
      replace hop := hop.within hwc (by omega)
      refine hK.out _ _ (hbox.cell 0 _ rfl) (fun hHeld => ?_)
      clear hK K hwc
      try simp only [Act.put, List.getElem_toArray, List.getElem_cons_zero, List.getElem_cons_succ, List.setIfInBounds_toArray, List.set_cons_zero, List.set_cons_succ]
      obtain ⟨q, hq⟩ : ∃ q : SeatA, Hid ((⟨(k : Int), n, p0, p1, p2, p3, bd, bh⟩ : SeatA) = q) := ⟨_, rfl⟩
      have oq : q.own d4 d1.heap.size d2.heap.size := by rw [← hq.out]; exact hop
      have hqs : Hid (q.short 7) := by rw [Hid, ← hq.out]; exact fun s hs => by have := hpss s hs; omega
      clear hop hpss
      refine wpAnyL_take (i := 9) (v := .agg q.cells.toArray) rfl (by kernel_rfl) (fun _ _ _ h => h) (Or.inl ⟨by rfl, ?_⟩) hHeld ?_
      · intro w' hSw
        have e9 := run_build_seat w' (k : Int) n p0 p1 p2 p3 bd bh
        rw [hq.out] at e9
        refine run_next' ?_
        simp only [List.map_toArray, List.map_cons, List.map_nil]
        exact e9
      try simp only [Act.put, List.getElem_toArray, List.getElem_cons_zero, List.getElem_cons_succ, List.setIfInBounds_toArray, List.set_cons_zero, List.set_cons_succ]
      clear hq
      refine wpAnyL_next 10 (by kernel_rfl) rfl (fun K hK => ?_)
      go_simp
      simp only [cellsSt_len, lit_seat, not_true_eq_false, Nat.lt_irrefl, or_self, if_false]
      go_simp
      obtain ⟨d5, hd5, bq, hb5, hs5⟩ := boxes1 d4 q.cells 38
      rw [hd5.out]
      have z5 := hb5.size
      replace hbox := hbox.below hb5 hbox.lt
      replace hbr := hbr.below hb5 hbr.lt
      replace hown := hown.below hb5
      replace hcr := hcr.below hb5
      replace oq := oq.below hb5
      replace HWr := HWr.trans (Within.of_below hb5)
      have rq : d5.rangeAt d4.heap.size 0 q.cells := Box.range [] q.cells [] (by simpa using bq)
      refine hK.out _ _ (hbox.cell 0 _ rfl) (fun hHeld => ?_)
      clear hK K hd5 hb5 hs5
      try simp only [Act.put, List.getElem_toArray, List.getElem_cons_zero, List.getElem_cons_succ, List.setIfInBounds_toArray, List.set_cons_zero, List.set_cons_succ]
      refine wpAnyL_next 11 (by kernel_rfl) rfl (fun K hK => ?_)
      refine step_append_seat rfl (.tmp 19) (.tmp 28) rfl W2.heap.size wr.heap.size a c ts rfl hown d4.heap.size 0 1 q rfl rq d1.heap.size d2.heap.size oq (by omega) (by omega) (by have := hts.out.2.1; omega) hsr ?_
      intro a9 c9 d6 o9 g9 _
      have hw9 : Within W2.heap.size wr.heap.size d5 d6 := Within.of_grown g9 (fun j hj => ⟨(hown.row.lt j hj).1, hown.blk j hj⟩)
      have z9 := hw9.size
      replace hbox := hbox.within hw9 (by omega)
      replace hbr := hbr.within hw9 (by omega)
      replace hcr := hcr.within hw9 (by omega)
      replace HWr := HWr.new hw9 (by omega)
      refine hK.out _ _ (hbox.cell 0 _ rfl) (fun hHeld => ?_)
      clear hK K hw9 g9 hown rq bq
      obtain ⟨us, hus⟩ : ∃ us, Hid (ts ++ [q] = us) := ⟨_, rfl⟩
      rw [hus.out] at o9 ⊢
      try simp only [Act.put, List.getElem_toArray, List.getElem_cons_zero, List.getElem_cons_succ, List.setIfInBounds_toArray, List.set_cons_zero, List.set_cons_succ]
      refine wpAnyL_take (i := 12) (v := .pointer (some ⟨w1.heap.size, 0, none⟩)) rfl (by kernel_rfl) (fun _ _ _ h => h) (Or.inl ⟨by rfl, ?_⟩) hHeld ?_
      · intro w' hSw
        go_simp <;> rfl
      try simp only [Act.put, List.getElem_toArray, List.getElem_cons_zero, List.getElem_cons_succ, List.setIfInBounds_toArray, List.set_cons_zero, List.set_cons_succ]
      have y0 := hbox.cell 0 _ rfl
      have f0 := hbox.frozen 0
      obtain ⟨d7, hd7, bX, hw7, hs7⟩ := box_set hbox 0 (.slice a9 us.length c9)
      simp only [List.set] at bX
      have z7 := hw7.size
      replace o9 : OwnSts d7 W2.heap.size d7.heap.size a9 c9 us := (o9.within hw7 (by omega)).widen (Nat.le_refl _) (by omega) (Nat.le_refl _)
      replace hbr := hbr.within hw7 (by omega)
      replace hcr := hcr.within hw7 (by omega)
      replace HWr := HWr.new hw7 (by omega)
      have hz7 : W2.heap.size ≤ d7.heap.size := by omega
      refine wpAnyL_last 13 (by kernel_rfl) rfl rfl (fun K hK => ?_)
      go_simp
      rw [hd7.out]
      refine hK.out _ _ ?_
      clear hK K
      refine wpAnyL_done (by kernel_rfl) ?_ _
      clear hHeld y0 f0 hd7 hw7 hs7 hbox
      have HUS : Hid (∀ kk : Nat, kk ≤ k + 2 → kk + 2 * (m - 1) ≤ 8 ∧ us.length + (m - 1) ≤ 3 ∧ ∀ s ∈ us, s.short 7) := fun kk hk => by
        rw [← hus.out]
        refine ⟨by have := hts.out.1; omega, by have := hts.out.2.1; simp; omega, fun s hs => ?_⟩
        rcases List.mem_append.1 hs with h | h
        · exact hts.out.2.2 s h
        · obtain rfl := List.mem_singleton.1 h
          exact hqs.out
      clear hus hts hqs
      go_wp2_with fail
      refine (l1Below_any B zs 2 d7 hcr hl (by omega)).mono ?_
      clear hcr
      rintro e d8 ⟨y, rfl, hy, hcr, hg8⟩
      replace hy : y < 2 := by have := hy (by omega); omega
      have hw8 := within_cur hg8
      have z8 := hw8.size
      replace bX := bX.within hw8 (by omega)
      replace hbr := hbr.within hw8 (by omega)
      replace o9 := (o9.within hw8 (by omega)).widen (Nat.le_refl _) z8 (Nat.le_refl _)
      replace HWr := HWr.trans hw8
      clear hw8 hg8
      have hm1 : ((m : Int) - 1) = ((m - 1 : Nat) : Int) := by omega
      have hyi : (y : Int) < 2 := by omega
      go_wp2_with fail
      go_roundw
      case rel => exact ⟨k + 1 + y, m - 1, us, a9, c9, by go_num, by go_num, HUS.out _ (by omega), o9, bX, hbr, hcr, by omega, HWr⟩
      case measure => simp [intOf]; omega
    · obtain rfl : m = 0 := by omega
      have hmm : ¬ (0 : Int) < ((0 : Nat) : Int) := by omega
      obtain ⟨P, hP⟩ : ∃ P : PoolA, Hid ((⟨ts, (x : Int), a, c⟩ : PoolA) = P) := ⟨_, rfl⟩
      have bP : Box wr w1.heap.size P.cells 26 := by rw [← hP.out]; exact hbox
      have oP : P.own wr W2.heap.size wr.heap.size := by rw [← hP.out]; exact hown
      have sP : Hid (P.seats.length ≤ 3 ∧ P.short 7) := by rw [Hid, ← hP.out]; exact ⟨by have := hts.out.2.1; show ts.length ≤ 3; omega, by have := hts.out.2.1; show ts.length ≤ 7; omega, hts.out.2.2⟩
      have rP : wr.rangeAt w1.heap.size 0 P.cells := Box.range [] P.cells [] (by simpa using bP)
      obtain ⟨WF, hWF, hwF, hsF, HTF, HLF, _⟩ := pool_out P _ rfl hbr
      have HF : Hid (PoolDrawn 3 w WF B zs (.returned (.agg P.cells.toArray))) := ⟨P, rfl, sP.out, (oP.within hwF (by omega)).widen (by omega) (by omega) (Nat.le_refl _), hcr.within hwF (by omega), HWr.new hwF (Nat.le_refl _)⟩
      clear hwF hsF hbr hbox hown oP hts bP hP
      go_wp2_with (first | (guard_target = wpList _ _ _ (Oper.mk (some 36) _ _ _ _ _ :: _) _ _; refine wpList_load_mid rfl 26 (.tmp 3) rfl w1.heap.size 0 rfl P.cells _ rP Tryd.underlying26 rfl (pool_info _) ?_) | (guard_target = wpList _ _ _ (Oper.mk none (Op.store _ (Operand.tmp 2) _) _ _ _ _ :: _) _ _; refine wpList_store_mid rfl 26 (.tmp 2) (.tmp 36) rfl w.heap.size 0 P.cells.toArray rfl rfl HTF.out (by rw [List.size_toArray]; exact pool_info _) (pool_one _) ?_) | fail)
      rw [hWF.out]
      exact bodyPost_ret (v := .agg P.cells.toArray) (results_one Tryd.results37 rfl HLF.out) rfl HF.out

set_option maxHeartbeats 8000000 in
set_option maxRecDepth 100000 in
theorem l6DrawAny_any (B : Nat) (zs : List Int) (w : World) (hc : CurAt w B zs) (hl : zs.length ≤ 70368744177664) :
    Calls Tryd.prog 20 #[.pointer (some ⟨B, 0, none⟩)] w fun e w' => PoolDrawn 4 w w' B zs e := by
  have hB := hc.lt
  obtain ⟨W, hW, b0, hbW, hsW⟩ := boxes1 w [.slice none 0 0, .int .i64 0] 26
  replace hc : CurAt W B zs := hc.below hbW
  have hsW' : w.heap.size < W.heap.size := by omega
  have HW : Within B (B + 1) w W := Within.of_below hbW
  clear hsW hbW
  go_enter Tryd.func20, Tryd.ntmps20
  go_wp2_with fail
  rw [hW.out]
  clear hW
  refine (l6Draw_any B zs W hc hl).mono ?_
  clear hc
  rintro e w1 ⟨t, rfl, ⟨ht3, ht⟩, ot, hc, hw1⟩
  have hs1 := hw1.size
  replace b0 := b0.within hw1 (by omega)
  replace HW := HW.trans hw1
  clear hw1
  obtain ⟨V2, hV2, bz, hbz, hsz⟩ := boxes1 w1 [.slice none 0 0, .int .i64 0] 26
  obtain ⟨W2, hW2, hw2, hs2, HT2, _, bt⟩ := pool_out t _ rfl bz
  have M2 : Below w1.heap.size w1 W2 := hbz.trans (hw2.below (Nat.le_refl _) (by omega))
  replace b0 := b0.below M2 b0.lt
  replace ot := ot.below M2
  replace hc := hc.below M2
  replace HW := HW.trans (Within.of_below M2)
  have hlt2 := bt.lt
  clear bz hbz hsz hw2 hs2 M2
  go_wp2_with (first | (guard_target = wpList _ _ _ (Oper.mk none (Op.store _ (Operand.tmp 3) _) _ _ _ _ :: _) _ _; refine wpList_store_mid rfl 26 (.tmp 3) (.tmp 5) rfl w1.heap.size 0 t.cells.toArray rfl rfl (by rw [hV2.out]; exact HT2.out) (by rw [List.size_toArray]; exact pool_info _) (pool_one _) ?_) | fail)
  rw [hV2.out, hW2.out]
  clear hV2 hW2 HT2
  refine (l1Below_any B zs 14 W2 hc hl (by omega)).mono ?_
  clear hc
  rintro e w3 ⟨y, rfl, _, hc, hg3⟩
  have hw3 := within_cur hg3
  have hs3 := hw3.size
  replace bt := bt.within hw3 (by omega)
  replace b0 := b0.within hw3 (by omega)
  replace ot := ot.within hw3 (.inr (by omega))
  replace HW := HW.trans hw3
  clear hw3 hg3
  by_cases hy0 : y = 0
  · subst hy0
    have hnat : ((0 : Nat) : Int) = 0 := rfl
    obtain ⟨W4, hW4, bi, hbi, hsi⟩ := boxes1 w3 [.int .i64 (-1), .int .i64 3] 3
    have hrl : ReadsI W4 (some ⟨w3.heap.size, 0, none⟩) [-1, 3] := fun _ => ⟨w3.heap.size, 0, rfl, fun i hi => by
      match i, hi with
      | 0, _ => exact bi.cell 0 _ rfl
      | 1, _ => exact bi.cell 1 _ rfl⟩
    have hB3 : B < w3.heap.size := hc.lt
    go_wp2_with fail
    rw [hW4.out]
    clear hW4
    refine (l1Int_any B zs (some ⟨w3.heap.size, 0, none⟩) 2 [-1, 3] W4 (hc.below hbi) hl hrl (fun b off e => by cases e; omega) (by simp) (by simp)).mono ?_
    clear hc
    rintro e w5 ⟨j, hj, rfl, hc, hg5⟩
    generalize ([-1, 3] : List Int).getD j 0 = z at *
    have hw5 := within_cur hg5
    have hs5 := hw5.size
    have hs34 := hbi.size
    replace bt := (bt.below hbi bt.lt).within hw5 (by omega)
    replace b0 := (b0.below hbi b0.lt).within hw5 (by omega)
    replace ot := (ot.below hbi).within hw5 (.inr (by omega))
    replace HW := (HW.trans (Within.of_below hbi)).trans hw5
    clear hbi hrl bi hj hg5 hw5 hsi
    obtain ⟨ts, hand, a, c⟩ := t
    simp only [PoolA.cells] at bt
    have x1 := bt.cell 1 _ rfl
    have f1 := bt.frozen 1
    obtain ⟨W6, hW6, b6, hw6, hs6⟩ := box_set bt 1 (.int .i64 z)
    simp only [List.set] at b6
    have hs56 := hw6.size
    replace b0 := b0.within hw6 (by omega)
    replace ot := ot.within hw6 (.inl (by omega))
    replace hc := hc.within hw6 (by omega)
    replace HW := HW.new hw6 (by omega)
    obtain ⟨P, hP⟩ : ∃ P : PoolA, Hid ((⟨ts, z, a, c⟩ : PoolA) = P) := ⟨_, rfl⟩
    have bP : Box W6 w1.heap.size P.cells 26 := by rw [← hP.out]; exact b6
    have oP : P.own W6 W.heap.size w1.heap.size := by rw [← hP.out]; exact ot
    have sP : Hid (P.seats.length ≤ 4 ∧ P.short 7) := by rw [Hid, ← hP.out]; exact ⟨Nat.le_succ_of_le ht3, ht.len, ht.each⟩
    clear hP b6 ot ht bt hs6 hw6
    go_upto_region 10 with fail
    rw [hW6.out]
    clear hW6 x1 f1
    have rP : W6.rangeAt w1.heap.size 0 P.cells := Box.range [] P.cells [] (by simpa using bP)
    obtain ⟨WF, hWF, hwF, hsF, HTF, HLF, _⟩ := pool_out P _ rfl b0
    have HF : Hid (PoolDrawn 4 w WF B zs (.returned (.agg P.cells.toArray))) := ⟨P, rfl, sP.out, (oP.within hwF (by omega)).widen (by omega) (by omega) (Nat.le_refl _), hc.within hwF (by omega), HW.new hwF (Nat.le_refl _)⟩
    clear hwF hsF b0 bP oP hc HW
    go_wp2_with (first | (guard_target = wpList _ _ _ (Oper.mk (some 40) _ _ _ _ _ :: _) _ _; refine wpList_load_mid rfl 26 (.tmp 3) rfl w1.heap.size 0 rfl P.cells _ rP Tryd.underlying26 rfl (pool_info _) ?_) | (guard_target = wpList _ _ _ (Oper.mk none (Op.store _ (Operand.tmp 2) _) _ _ _ _ :: _) _ _; refine wpList_store_mid rfl 26 (.tmp 2) (.tmp 40) rfl w.heap.size 0 P.cells.toArray rfl rfl HTF.out (by rw [List.size_toArray]; exact pool_info _) (pool_one _) ?_) | fail)
    rw [hWF.out]
    exact bodyPost_ret (v := .agg P.cells.toArray) (results_one Tryd.results20 rfl HLF.out) rfl HF.out
  by_cases hy1 : y = 1
  · subst hy1
    have hyb0 : (((1 : Nat) : Int) == 0) = false := rfl
    obtain ⟨ts, hand, a, c⟩ := t
    simp only [PoolA.cells] at bt
    go_wp2_with fail
    have hD : Below w3.heap.size w3 w3.drew := (Below.refl _ _).drew
    replace ot : OwnSts w3.drew W.heap.size w1.heap.size a c ts := PoolA.own.below ot hD
    replace bt : Box w3.drew w1.heap.size [.slice a ts.length c, .int .i64 hand] 26 := bt.below hD bt.lt
    replace b0 : Box w3.drew w.heap.size [.slice none 0 0, .int .i64 0] 26 := b0.below hD b0.lt
    replace hc : CurAt w3.drew B zs := hc.below hD
    replace HW : Within B (B + 1) w w3.drew := HW.trans (Within.of_below hD)
    have zr : w3.heap.size ≤ w3.drew.heap.size := hD.size
    clear hD
    refine wp_region_late (· == 9) (S := fun u => u.cell? ⟨w1.heap.size, 0, none⟩ = some (.slice a ts.length c)) (by kernel_rfl) (bt.cell 0 _ rfl) (fun hHeld => ?_)
    generalize w3.drew = d1 at *
    refine wpAnyL_take (i := 0) (v := .pointer (some ⟨w1.heap.size, 0, none⟩)) rfl (by kernel_rfl) (fun _ _ _ h => h) (Or.inl ⟨by rfl, ?_⟩) hHeld ?_
    · intro w' hSw
      go_simp <;> rfl
    try simp only [Act.put, List.getElem_toArray, List.getElem_cons_zero, List.setIfInBounds_toArray, List.set_cons_zero, List.set_cons_succ]
    refine wpAnyL_take (i := 1) (v := .slice a ts.length c) rfl (by kernel_rfl) (fun _ _ _ h => h) (Or.inl ⟨by rfl, ?_⟩) hHeld ?_
    · intro w' hSw
      have hx := hSw
      go_simp <;> rfl
    try simp only [Act.put, List.getElem_toArray, List.getElem_cons_zero, List.getElem_cons_succ, List.setIfInBounds_toArray, List.set_cons_zero, List.set_cons_succ]
    refine wpAnyL_take (i := 2) (v := .pointer (some ⟨B, 0, none⟩)) rfl (by kernel_rfl) (fun _ _ _ h => h) (Or.inl ⟨by rfl, ?_⟩) hHeld ?_
    · intro w' hSw
      go_simp <;> rfl
    try simp only [Act.put, List.getElem_toArray, List.getElem_cons_zero, List.getElem_cons_succ, List.setIfInBounds_toArray, List.set_cons_zero, List.set_cons_succ]
    refine wpAnyL_next 3 (by kernel_rfl) rfl (fun K hK => ?_)
    go_simp
    obtain ⟨d2, hd2, bi, hbi, hsi⟩ := boxes1 d1 [.int .i64 7, .int .i64 8, .int .i64 0] 3
    have hrl : ReadsI d2 (some ⟨d1.heap.size, 0, none⟩) [7, 8, 0] := fun _ => ⟨d1.heap.size, 0, rfl, fun i hi => by
      match i, hi with
      | 0, _ => exact bi.cell 0 _ rfl
      | 1, _ => exact bi.cell 1 _ rfl
      | 2, _ => exact bi.cell 2 _ rfl⟩
    have hBd : B < d1.heap.size := hc.lt
    rw [hd2.out]
    have z2 := hbi.size
    replace bt := bt.below hbi bt.lt
    replace b0 := b0.below hbi b0.lt
    replace ot := ot.below hbi
    replace hc := hc.below hbi
    replace HW := HW.trans (Within.of_below hbi)
    refine hK.out _ _ (bt.cell 0 _ rfl) (fun hHeld => ?_)
    clear hK K hbi hd2 hsi bi
    try simp only [Act.put, List.getElem_toArray, List.getElem_cons_zero, List.getElem_cons_succ, List.setIfInBounds_toArray, List.set_cons_zero, List.set_cons_succ]
    refine wpAnyL_next 4 (by kernel_rfl) rfl (fun K hK => ?_)
    go_simp
    refine (l1Int_any B zs (some ⟨d1.heap.size, 0, none⟩) 3 [7, 8, 0] d2 hc hl hrl (fun b off e => by cases e; omega) (by simp) (by simp)).mono ?_
    clear hc
    rintro e d3 ⟨j, hj, rfl, hc, hg5⟩
    generalize ([7, 8, 0] : List Int).getD j 0 = z at *
    have hw5 := within_cur hg5
    have z3 := hw5.size
    replace bt := bt.within hw5 (by omega)
    replace b0 := b0.within hw5 (by omega)
    replace ot := ot.within hw5 (.inr (by omega))
    replace HW := HW.trans hw5
    refine hK.out _ _ (bt.cell 0 _ rfl) (fun hHeld => ?_)
    clear hK K hw5 hg5 hrl hj
    try simp only [Act.put, List.getElem_toArray, List.getElem_cons_zero, List.getElem_cons_succ, List.setIfInBounds_toArray, List.set_cons_zero, List.set_cons_succ]
    obtain ⟨q, hq⟩ : ∃ q : SeatA, Hid ((⟨z, 0, zeroS, zeroS, zeroS, zeroS, false, false⟩ : SeatA) = q) := ⟨_, rfl⟩
    have hqs : Hid (q.short 7) := by
      rw [Hid, ← hq.out]
      intro s hs
      simp only [SeatA.ss, List.mem_cons, List.not_mem_nil, or_false] at hs
      have : s = zeroS := by rcases hs with h | h | h | h <;> exact h
      subst this
      exact ⟨Nat.zero_le _, Nat.zero_le _⟩
    have HOQ : Hid (∀ u : World, d3.heap.size ≤ u.heap.size → q.own u d3.heap.size d3.heap.size) := fun u hu => by rw [← hq.out]; exact zeroSt_own' u _ _ hu
    refine wpAnyL_take (i := 5) (v := .agg q.cells.toArray) rfl (by kernel_rfl) (fun _ _ _ h => h) (Or.inl ⟨by rfl, ?_⟩) hHeld ?_
    · intro w' hSw
      have e9 := run_build_seat1 w' z
      rw [hq.out] at e9
      refine run_next' ?_
      simp only [List.map_toArray, List.map_cons, List.map_nil]
      exact e9
    try simp only [Act.put, List.getElem_toArray, List.getElem_cons_zero, List.getElem_cons_succ, List.setIfInBounds_toArray, List.set_cons_zero, List.set_cons_succ]
    clear hq
    refine wpAnyL_next 6 (by kernel_rfl) rfl (fun K hK => ?_)
    go_simp
    simp only [cellsSt_len, lit_seat, not_true_eq_false, Nat.lt_irrefl, or_self, if_false]
    go_simp
    obtain ⟨d4, hd4, bq, hb5, hs5⟩ := boxes1 d3 q.cells 38
    rw [hd4.out]
    have z4 := hb5.size
    replace bt := bt.below hb5 bt.lt
    replace b0 := b0.below hb5 b0.lt
    replace ot := ot.below hb5
    replace hc := hc.below hb5
    replace HW := HW.trans (Within.of_below hb5)
    have rq : d4.rangeAt d3.heap.size 0 q.cells := Box.range [] q.cells [] (by simpa using bq)
    refine hK.out _ _ (bt.cell 0 _ rfl) (fun hHeld => ?_)
    clear hK K hd4 hb5 hs5
    try simp only [Act.put, List.getElem_toArray, List.getElem_cons_zero, List.getElem_cons_succ, List.setIfInBounds_toArray, List.set_cons_zero, List.set_cons_succ]
    refine wpAnyL_next 7 (by kernel_rfl) rfl (fun K hK => ?_)
    have hlen : ts.length ≤ 3 := ht3
    refine step_append_seat rfl (.tmp 17) (.tmp 22) rfl W.heap.size w1.heap.size a c ts rfl ot d3.heap.size 0 1 q rfl rq d3.heap.size d3.heap.size (HOQ.out _ (by omega)) (by omega) (by omega) (by omega) (by omega) ?_
    intro a9 c9 d5 o9 g9 f9
    have HOB : Hid (∀ k ∈ blocksSts a9 c9 (ts ++ [q]), k ≠ w1.heap.size) := fun k hk => by
      simp only [blocksSts, List.mem_append, Option.mem_toList, List.flatMap_append, List.flatMap_cons, List.flatMap_nil, List.append_nil] at hk
      rcases hk with hk | hk | hk
      · rcases f9 k hk with h | h
        · have := ot.blk k h; omega
        · omega
      · have := (ot.blocks_lt k (List.mem_append.2 (.inr hk))).2; omega
      · have := (HOQ.out d4 (by omega)).blocks_lt k hk; omega
    clear f9
    have hw9 : Within W.heap.size w1.heap.size d4 d5 := Within.of_grown g9 (fun j hj => ⟨(ot.row.lt j hj).1, ot.blk j hj⟩)
    have z9 := hw9.size
    replace bt := bt.within hw9 (by omega)
    replace b0 := b0.within hw9 (by omega)
    replace hc := hc.within hw9 (by omega)
    replace HW := HW.new hw9 (by omega)
    refine hK.out _ _ (bt.cell 0 _ rfl) (fun hHeld => ?_)
    clear hK K hw9 g9 ot rq bq
    obtain ⟨us, hus⟩ : ∃ us, Hid (ts ++ [q] = us) := ⟨_, rfl⟩
    rw [hus.out] at o9 HOB ⊢
    try simp only [Act.put, List.getElem_toArray, List.getElem_cons_zero, List.getElem_cons_succ, List.setIfInBounds_toArray, List.set_cons_zero, List.set_cons_succ]
    refine wpAnyL_take (i := 8) (v := .pointer (some ⟨w1.heap.size, 0, none⟩)) rfl (by kernel_rfl) (fun _ _ _ h => h) (Or.inl ⟨by rfl, ?_⟩) hHeld ?_
    · intro w' hSw
      go_simp <;> rfl
    try simp only [Act.put, List.getElem_toArray, List.getElem_cons_zero, List.getElem_cons_succ, List.setIfInBounds_toArray, List.set_cons_zero, List.set_cons_succ]
    have y0 := bt.cell 0 _ rfl
    have f0 := bt.frozen 0
    obtain ⟨d6, hd6, bX, hw7, hs7⟩ := box_set bt 0 (.slice a9 us.length c9)
    simp only [List.set] at bX
    have z7 := hw7.size
    obtain ⟨P, hP⟩ : ∃ P : PoolA, Hid ((⟨us, hand, a9, c9⟩ : PoolA) = P) := ⟨_, rfl⟩
    have bP : Box d6 w1.heap.size P.cells 26 := by rw [← hP.out]; exact bX
    have oP : P.own d6 W.heap.size d6.heap.size := by rw [← hP.out]; exact (o9.touch (bl := [w1.heap.size]) ⟨hw7.os, hw7.tape, hw7.output, hw7.size, fun j hj hn => hw7.block j hj (fun hh => hn (by simp; omega))⟩ (fun k hk hk' => HOB.out k hk (List.mem_singleton.1 hk'))).widen (Nat.le_refl _) (by omega) (Nat.le_refl _)
    clear HOB
    replace b0 := b0.within hw7 (by omega)
    replace hc := hc.within hw7 (by omega)
    replace HW := HW.new hw7 (by omega)
    have sP : Hid (P.seats.length ≤ 4 ∧ P.short 7) := by
      rw [Hid, ← hP.out, ← hus.out]
      refine ⟨by show (ts ++ [q]).length ≤ 4; simp; exact ht3, by show (ts ++ [q]).length ≤ 7; simp; omega, fun s hs => ?_⟩
      rcases List.mem_append.1 hs with h | h
      · exact ht.each s h
      · obtain rfl := List.mem_singleton.1 h
        exact hqs.out
    refine wpAnyL_last 9 (by kernel_rfl) rfl rfl (fun K hK => ?_)
    go_simp
    rw [hd6.out]
    refine hK.out _ _ ?_
    clear hK K
    refine wpAnyL_done (by kernel_rfl) ?_ _
    clear hHeld y0 f0 hd6 hw7 hs7 bt hus hqs ht hP bX o9 HOQ ht3
    have rP : d6.rangeAt w1.heap.size 0 P.cells := Box.range [] P.cells [] (by simpa using bP)
    obtain ⟨WF, hWF, hwF, hsF, HTF, HLF, _⟩ := pool_out P _ rfl b0
    have HF : Hid (PoolDrawn 4 w WF B zs (.returned (.agg P.cells.toArray))) := ⟨P, rfl, sP.out, (oP.within hwF (by omega)).widen (by omega) (by omega) (Nat.le_refl _), hc.within hwF (by omega), HW.new hwF (Nat.le_refl _)⟩
    clear hwF hsF b0 bP oP hc HW
    go_wp2_with (first | (guard_target = wpList _ _ _ (Oper.mk (some 40) _ _ _ _ _ :: _) _ _; refine wpList_load_mid rfl 26 (.tmp 3) rfl w1.heap.size 0 rfl P.cells _ rP Tryd.underlying26 rfl (pool_info _) ?_) | (guard_target = wpList _ _ _ (Oper.mk none (Op.store _ (Operand.tmp 2) _) _ _ _ _ :: _) _ _; refine wpList_store_mid rfl 26 (.tmp 2) (.tmp 40) rfl w.heap.size 0 P.cells.toArray rfl rfl HTF.out (by rw [List.size_toArray]; exact pool_info _) (pool_one _) ?_) | fail)
    rw [hWF.out]
    exact bodyPost_ret (v := .agg P.cells.toArray) (results_one Tryd.results20 rfl HLF.out) rfl HF.out
  by_cases hy2 : y = 2
  · subst hy2
    have hyb0 : (((2 : Nat) : Int) == 0) = false := rfl
    have hyb1 : (((2 : Nat) : Int) == 1) = false := rfl
    obtain ⟨ts, hand, a, c⟩ := t
    simp only [PoolA.cells] at bt
    have x0 := bt.cell 0 _ rfl
    by_cases hn : 1 < ts.length
    · obtain ⟨s0, s1, r, rfl⟩ : ∃ s0 s1 r, ts = s0 :: s1 :: r := by
        match ts, hn with
        | s0 :: s1 :: r, _ => exact ⟨s0, s1, r, rfl⟩
      clear hn
      have hlen : (s0 :: s1 :: r).length ≤ 7 := ht.len
      have hn : (1 : Int) < ((s0 :: s1 :: r).length : Int) := by simp; omega
      have hn1 : (1 : Int) < ((s0 :: s1 :: r).length : Int) := hn
      have hn0 : (0 : Int) < ((s0 :: s1 :: r).length : Int) := by omega
      simp only [PoolA.own] at ot
      obtain ⟨g, rfl⟩ : ∃ g, a = some ⟨g, 0, none⟩ := by
        rcases ot.row.2 with ⟨_, h0⟩ | ⟨g, cap', cur, hv, _⟩
        · simp at h0
        · simp only [Value.slice.injEq] at hv; exact ⟨g, hv.1⟩
      have hgl := ot.blocks_lt g (by simp [blocksSts, Value.ownBlock])
      have hD : Below w3.heap.size w3 w3.drew := (Below.refl _ _).drew
      have zr : w3.heap.size ≤ w3.drew.heap.size := hD.size
      have obt : OwnSts w3.drew W.heap.size w1.heap.size (some ⟨g, 0, none⟩) c ([] ++ s0 :: (s1 :: r)) := ot.below hD
      have bt1 : Box w3.drew w1.heap.size [.slice (some ⟨g, 0, none⟩) (s0 :: s1 :: r).length c, .int .i64 hand] 26 := bt.below hD bt.lt
      have b01 : Box w3.drew w.heap.size [.slice none 0 0, .int .i64 0] 26 := b0.below hD b0.lt
      have hc1 : CurAt w3.drew B zs := hc.below hD
      have HW1 : Within B (B + 1) w w3.drew := HW.trans (Within.of_below hD)
      have c1 := (row_seat obt.row rfl 1 (by simp)).1 0 _ rfl
      have c0 := (row_seat obt.row rfl 0 (by simp)).1 0 _ rfl
      simp only [List.nil_append, List.getD_cons_succ, List.getD_cons_zero, Nat.zero_mul, Nat.one_mul, Nat.add_zero] at c1 c0
      have f0 := obt.row.frozenAt 0
      obtain ⟨o4, t4⟩ := obt.cellSet (z' := { s0 with no := s1.no }) 0 (.int .i64 s1.no) (by omega) rfl rfl
      simp only [List.length_nil, Nat.zero_mul, Nat.zero_add, List.nil_append] at o4 t4
      obtain ⟨W4, hW4⟩ : ∃ W4, Hid (w3.drew.setCell ⟨g, 0, none⟩ (.int .i64 s1.no) = W4) := ⟨_, rfl⟩
      rw [hW4.out] at o4 t4
      obtain ⟨P, hP⟩ : ∃ P : PoolA, Hid ((⟨{ s0 with no := s1.no } :: s1 :: r, hand, some ⟨g, 0, none⟩, c⟩ : PoolA) = P) := ⟨_, rfl⟩
      have sP : Hid (P.seats.length ≤ 4 ∧ P.short 7) := by
        rw [Hid, ← hP.out]
        refine ⟨Nat.le_succ_of_le ht3, hlen, fun s hs => ?_⟩
        rcases List.mem_cons.1 hs with rfl | hs
        · exact ht.each s0 (by simp)
        · exact ht.each s (by simp [List.mem_cons.1 hs])
      have oP : P.own W4 W.heap.size w1.heap.size := by rw [← hP.out]; exact o4
      have bP : Box W4 w1.heap.size P.cells 26 := by rw [← hP.out]; exact bt1.touch t4 (by simp; omega)
      have b04 := b01.touch t4 (by simp; omega)
      have tw : Within g (g + 1) w3.drew W4 := ⟨t4.os, t4.tape, t4.output, t4.size, fun k hk hn => t4.block k hk (by simp; omega)⟩
      have hc4 : CurAt W4 B zs := hc1.within tw (by omega)
      have HW4 : Within B (B + 1) w W4 := HW1.new tw (by omega)
      have hs4 := t4.size
      have y0 : w3.drew.cell? ⟨w1.heap.size, 0, none⟩ = some (.slice (some ⟨g, 0, none⟩) (s0 :: s1 :: r).length c) := bt1.cell 0 _ rfl
      clear hP ot ht bt b0 hc HW obt bt1 b01 hc1 HW1 t4 tw o4 hD
      generalize s0 :: s1 :: r = ss at *
      go_upto_region 9 with fail
      refine wp_region_late (fun i => decide (7 ≤ i)) (S := fun u => u.cell? ⟨w1.heap.size, 0, none⟩ = some (.slice (some ⟨g, 0, none⟩) ss.length c) ∧ u.cell? ⟨g, 20, none⟩ = some (.int .i64 s1.no)) (by kernel_rfl) ⟨y0, c1⟩ (fun hHeld => ?_)
      clear y0 x0
      generalize w3.drew = d1 at *
      refine wpAnyL_take (i := 0) (v := .pointer (some ⟨w1.heap.size, 0, none⟩)) rfl (by kernel_rfl) (fun _ _ _ h => h) (Or.inl ⟨by rfl, ?_⟩) hHeld ?_
      · intro w' hSw
        go_simp <;> rfl
      try simp only [Act.put, List.getElem_toArray, List.getElem_cons_zero, List.setIfInBounds_toArray, List.set_cons_zero, List.set_cons_succ]
      refine wpAnyL_take (i := 1) (v := .slice (some ⟨g, 0, none⟩) ss.length c) rfl (by kernel_rfl) (fun _ _ _ h => h) (Or.inl ⟨by rfl, ?_⟩) hHeld ?_
      · intro w' hSw
        have hx := hSw.1
        go_simp <;> rfl
      try simp only [Act.put, List.getElem_toArray, List.getElem_cons_zero, List.getElem_cons_succ, List.setIfInBounds_toArray, List.set_cons_zero, List.set_cons_succ]
      refine wpAnyL_take (i := 2) (v := .pointer (some ⟨w1.heap.size, 0, none⟩)) rfl (by kernel_rfl) (fun _ _ _ h => h) (Or.inl ⟨by rfl, ?_⟩) hHeld ?_
      · intro w' hSw
        go_simp <;> rfl
      try simp only [Act.put, List.getElem_toArray, List.getElem_cons_zero, List.getElem_cons_succ, List.setIfInBounds_toArray, List.set_cons_zero, List.set_cons_succ]
      refine wpAnyL_take (i := 3) (v := .slice (some ⟨g, 0, none⟩) ss.length c) rfl (by kernel_rfl) (fun _ _ _ h => h) (Or.inl ⟨by rfl, ?_⟩) hHeld ?_
      · intro w' hSw
        have hx := hSw.1
        go_simp <;> rfl
      try simp only [Act.put, List.getElem_toArray, List.getElem_cons_zero, List.getElem_cons_succ, List.setIfInBounds_toArray, List.set_cons_zero, List.set_cons_succ]
      refine wpAnyL_take (i := 4) (v := .pointer (some ⟨g, 20, none⟩)) rfl (by kernel_rfl) (fun _ _ _ h => h) (Or.inl ⟨by rfl, ?_⟩) hHeld ?_
      · intro w' hSw
        go_simp <;> rfl
      try simp only [Act.put, List.getElem_toArray, List.getElem_cons_zero, List.getElem_cons_succ, List.setIfInBounds_toArray, List.set_cons_zero, List.set_cons_succ]
      refine wpAnyL_take (i := 5) (v := .pointer (some ⟨g, 20, none⟩)) rfl (by kernel_rfl) (fun _ _ _ h => h) (Or.inl ⟨by rfl, ?_⟩) hHeld ?_
      · intro w' hSw
        go_simp <;> rfl
      try simp only [Act.put, List.getElem_toArray, List.getElem_cons_zero, List.getElem_cons_succ, List.setIfInBounds_toArray, List.set_cons_zero, List.set_cons_succ]
      refine wpAnyL_take (i := 6) (v := .int .i64 s1.no) rfl (by kernel_rfl) (fun _ _ _ h => h) (Or.inl ⟨by rfl, ?_⟩) hHeld ?_
      · intro w' hSw
        have hx := hSw.2
        go_simp <;> rfl
      try simp only [Act.put, List.getElem_toArray, List.getElem_cons_zero, List.getElem_cons_succ, List.setIfInBounds_toArray, List.set_cons_zero, List.set_cons_succ]
      have hne : 0 < ss.length := by omega
      refine wpAnyL_last 7 (by kernel_rfl) rfl rfl (fun K hK => ?_)
      go_simp
      refine hK.out _ _ ?_
      clear hK K
      try simp only [Act.put, List.getElem_toArray, List.getElem_cons_zero, List.getElem_cons_succ, List.setIfInBounds_toArray, List.set_cons_zero, List.set_cons_succ]
      refine wpAnyL_last 8 (by kernel_rfl) rfl rfl (fun K hK => ?_)
      go_simp
      refine hK.out _ _ ?_
      clear hK K
      try simp only [Act.put, List.getElem_toArray, List.getElem_cons_zero, List.getElem_cons_succ, List.setIfInBounds_toArray, List.set_cons_zero, List.set_cons_succ]
      refine wpAnyL_last 9 (by kernel_rfl) rfl rfl (fun K hK => ?_)
      go_simp
      rw [hW4.out]
      refine hK.out _ _ ?_
      clear hK K
      refine wpAnyL_done (by kernel_rfl) ?_ _
      have b0 := b04
      have hc := hc4
      have HW := HW4
      clear hHeld c0 c1 f0 hW4 b04 hc4 HW4
      have rP : W4.rangeAt w1.heap.size 0 P.cells := Box.range [] P.cells [] (by simpa using bP)
      obtain ⟨WF, hWF, hwF, hsF, HTF, HLF, _⟩ := pool_out P _ rfl b0
      have HF : Hid (PoolDrawn 4 w WF B zs (.returned (.agg P.cells.toArray))) := ⟨P, rfl, sP.out, (oP.within hwF (by omega)).widen (by omega) (by omega) (Nat.le_refl _), hc.within hwF (by omega), HW.new hwF (Nat.le_refl _)⟩
      clear hwF hsF b0 bP oP hc HW
      go_wp2_with (first | (guard_target = wpList _ _ _ (Oper.mk (some 40) _ _ _ _ _ :: _) _ _; refine wpList_load_mid rfl 26 (.tmp 3) rfl w1.heap.size 0 rfl P.cells _ rP Tryd.underlying26 rfl (pool_info _) ?_) | (guard_target = wpList _ _ _ (Oper.mk none (Op.store _ (Operand.tmp 2) _) _ _ _ _ :: _) _ _; refine wpList_store_mid rfl 26 (.tmp 2) (.tmp 40) rfl w.heap.size 0 P.cells.toArray rfl rfl HTF.out (by rw [List.size_toArray]; exact pool_info _) (pool_one _) ?_) | fail)
      rw [hWF.out]
      exact bodyPost_ret (v := .agg P.cells.toArray) (results_one Tryd.results20 rfl HLF.out) rfl HF.out
    have hn' : ¬ (1 : Int) < (ts.length : Int) := by omega
    obtain ⟨P, hP⟩ : ∃ P : PoolA, Hid ((⟨ts, hand, a, c⟩ : PoolA) = P) := ⟨_, rfl⟩
    have bP : Box w3 w1.heap.size P.cells 26 := by rw [← hP.out]; exact bt
    have oP : P.own w3 W.heap.size w1.heap.size := by rw [← hP.out]; exact ot
    have sP : Hid (P.seats.length ≤ 4 ∧ P.short 7) := by rw [Hid, ← hP.out]; exact ⟨Nat.le_succ_of_le ht3, ht⟩
    clear hP ot ht bt
    go_upto_region 10 with fail
    clear x0
    have rP : w3.rangeAt w1.heap.size 0 P.cells := Box.range [] P.cells [] (by simpa using bP)
    obtain ⟨WF, hWF, hwF, hsF, HTF, HLF, _⟩ := pool_out P _ rfl b0
    have HF : Hid (PoolDrawn 4 w WF B zs (.returned (.agg P.cells.toArray))) := ⟨P, rfl, sP.out, (oP.within hwF (by omega)).widen (by omega) (by omega) (Nat.le_refl _), hc.within hwF (by omega), HW.new hwF (Nat.le_refl _)⟩
    clear hwF hsF b0 bP oP hc HW
    go_wp2_with (first | (guard_target = wpList _ _ _ (Oper.mk (some 40) _ _ _ _ _ :: _) _ _; refine wpList_load_mid rfl 26 (.tmp 3) rfl w1.heap.size 0 rfl P.cells _ rP Tryd.underlying26 rfl (pool_info _) ?_) | (guard_target = wpList _ _ _ (Oper.mk none (Op.store _ (Operand.tmp 2) _) _ _ _ _ :: _) _ _; refine wpList_store_mid rfl 26 (.tmp 2) (.tmp 40) rfl w.heap.size 0 P.cells.toArray rfl rfl HTF.out (by rw [List.size_toArray]; exact pool_info _) (pool_one _) ?_) | fail)
    rw [hWF.out]
    exact bodyPost_ret (v := .agg P.cells.toArray) (results_one Tryd.results20 rfl HLF.out) rfl HF.out
  have hyb0 : ((y : Int) == 0) = false := by simp; omega
  have hyb1 : ((y : Int) == 1) = false := by simp; omega
  have hyb2 : ((y : Int) == 2) = false := by simp; omega
  clear hy0 hy1 hy2
  have bP := bt
  have oP := ot
  have sP : Hid (t.seats.length ≤ 4 ∧ t.short 7) := ⟨Nat.le_succ_of_le ht3, ht⟩
  clear bt ot ht
  generalize t = P at *
  have rP : w3.rangeAt w1.heap.size 0 P.cells := Box.range [] P.cells [] (by simpa using bP)
  obtain ⟨WF, hWF, hwF, hsF, HTF, HLF, _⟩ := pool_out P _ rfl b0
  have HF : Hid (PoolDrawn 4 w WF B zs (.returned (.agg P.cells.toArray))) := ⟨P, rfl, sP.out, (oP.within hwF (by omega)).widen (by omega) (by omega) (Nat.le_refl _), hc.within hwF (by omega), HW.new hwF (Nat.le_refl _)⟩
  clear hwF hsF b0 bP oP hc HW
  go_wp2_with (first | (guard_target = wpList _ _ _ (Oper.mk (some 40) _ _ _ _ _ :: _) _ _; refine wpList_load_mid rfl 26 (.tmp 3) rfl w1.heap.size 0 rfl P.cells _ rP Tryd.underlying26 rfl (pool_info _) ?_) | (guard_target = wpList _ _ _ (Oper.mk none (Op.store _ (Operand.tmp 2) _) _ _ _ _ :: _) _ _; refine wpList_store_mid rfl 26 (.tmp 2) (.tmp 40) rfl w.heap.size 0 P.cells.toArray rfl rfl HTF.out (by rw [List.size_toArray]; exact pool_info _) (pool_one _) ?_) | fail)
  rw [hWF.out]
  exact bodyPost_ret (v := .agg P.cells.toArray) (results_one Tryd.results20 rfl HLF.out) rfl HF.out
end Go.Proofs.YtoboickdkednkaaDoor
