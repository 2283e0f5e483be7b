/- Several texts in one, in their order. -/
import Derived.Test.YtickiokdcbeefabDoorPVictimx17
import Derived.Test.YtickiokdcbeefabDoorPVictimx13
import Derived.Test.YtickiokdcbeefabDoorPVictimx12
import Derived.Deep.CutRange
import Derived.Deep.RegionLaw
import Derived.Deep.DrawnRows
import Derived.Deep.RegionHeld3
import Derived.Test.YtickiokdcbeefabDoorPVictimx15
/- The walks that look one up: spec.l7Live, spec.l7Holder, spec.Seated, spec.l7Last. -/
namespace Go.Proofs.YtickiokdcbeefabDoor
open Go.RowKit

def liveFrom (tx : Int) : List LiveV → Nat → Int
  | [], _ => -1
  | l :: r, k => if l.tx = tx then (k : Int) else liveFrom tx r (k + 1)
/-- Where the first of this tx is; -1 if there is none. -/
def liveOf (ls : List LiveV) (tx : Int) : Int := liveFrom tx ls 0
def holdFrom (oid : Int) : List HoldV → Int
  | [] => 0
  | l :: r => if l.oid = oid then l.tx else holdFrom oid r
/-- Who holds it; 0: nobody. -/
def seatFrom (no : Int) : List SeatV → Nat → Int
  | [], _ => -1
  | l :: r, k => if l.no = no then (k : Int) else seatFrom no r (k + 1)
def seatedOf (ss : List SeatV) (no : Int) : Int := seatFrom no ss 0
/-- The last of the first k of this tx; 0: none. -/
def lastFrom (tx : Int) (rs : List RecV) : Nat → Int
  | 0 => 0
  | k + 1 => if (rs.getD k zeroR.v).tx = tx then (k : Int) + 1 else lastFrom tx rs k
def lastOf (rs : List RecV) (tx : Int) : Int := lastFrom tx rs rs.length
theorem dropL_at (ls : List LiveV) (k : Nat) (h : k < ls.length) : ls.drop k = ls.getD k zeroL :: ls.drop (k + 1) := by
  rw [List.drop_eq_getElem_cons h]
  simp [List.getD, h]
theorem dropH_at (ls : List HoldV) (k : Nat) (h : k < ls.length) : ls.drop k = ls.getD k zeroH :: ls.drop (k + 1) := by
  rw [List.drop_eq_getElem_cons h]
  simp [List.getD, h]
theorem dropSt_at (ls : List SeatA) (k : Nat) (h : k < ls.length) : (ls.map SeatA.v).drop k = (ls.getD k zeroSt).v :: (ls.map SeatA.v).drop (k + 1) := by
  rw [List.drop_eq_getElem_cons (by simpa using h)]
  simp [List.getD, h]

set_option maxHeartbeats 1000000 in
set_option maxRecDepth 100000 in
theorem specSeated_any (a : Option Addr) (c : Nat) (ls : List SeatA) (hand no : Int) (w : World) (hr : ReadsSts w a ls) (hl : ls.length ≤ 1099511627776) :
    Calls Tryd.prog 38 #[.agg #[.slice a ls.length c, .int .i64 hand], .int .i64 no] w fun r w' => r = .returned (.int .i64 (seatedOf (ls.map SeatA.v) no)) ∧ Below w.heap.size w w' := by
  obtain ⟨W, hW, b0, hbW, hsW⟩ := boxes1 w [.slice a ls.length c, .int .i64 hand] 28
  have HT : Hid (∀ u, Below W.heap.size W u → u.cell? ⟨w.heap.size, 0, none⟩ = some (.slice a ls.length c)) := fun u hu => (b0.below hu b0.lt).cell 0 _ rfl
  have HR : Hid (∀ u, Below W.heap.size W u → ReadsSts u a ls) := fun u hu => hr.below (hbW.trans (hu.mono hbW.size))
  have HF : Hid (seatFrom no ((ls.map SeatA.v).drop 0) 0 = seatedOf (ls.map SeatA.v) no) := rfl
  generalize seatedOf (ls.map SeatA.v) no = R at *
  clear hsW b0 hr
  go_enter Tryd.func38, Tryd.ntmps38
  go_wp2_with fail
  rw [hW.out]
  clear hW
  go_loopw [5] (fun i wr => ∃ (k : Nat), i = .int .i64 k ∧ k ≤ ls.length ∧ Hid (seatFrom no ((ls.map SeatA.v).drop k) k = R) ∧ Below W.heap.size W wr)
    (fun i _ => ls.length - (intOf i).toNat)
  case atStart => exact ⟨0, rfl, by omega, HF, Below.refl _ _⟩
  case round =>
    obtain ⟨k, rfl, hk, hR, hbl⟩ := hrel
    have x0 := HT.out wr hbl
    have hrr := HR.out wr hbl
    have hbT : Below w.heap.size w wr := hbW.trans (hbl.mono hbW.size)
    by_cases hlt : k < ls.length
    · obtain ⟨b, off, rfl, hcell⟩ := hrr (by rintro rfl; simp at hlt)
      have c0 := (hcell k hlt).1 0 _ rfl
      simp only [Nat.add_zero] at c0
      clear hcell
      have hkk : (k : Int) < (ls.length : Int) := by omega
      have hi0 : (0 : Int) ≤ (k : Int) := by omega
      have HR2 : Hid ((if (ls.getD k zeroSt).no = no then (k : Int) else seatFrom no ((ls.map SeatA.v).drop (k + 1)) (k + 1)) = R) := by
        have h := hR.out
        rw [dropSt_at ls k hlt, seatFrom] at h
        exact h
      generalize ls.getD k zeroSt = z at *
      by_cases hq : z.no = no
      · have HR3 : Hid ((k : Int) = R) := by have h := HR2.out; rw [if_pos hq] at h; exact h
        have hqb : (z.no == no) = true := by simpa using hq
        clear hq hR HR2
        go_wp2
        go_ret
        exact ⟨ret_int HR3.out, hbT⟩
      · have HR3 : Hid (seatFrom no ((ls.map SeatA.v).drop (k + 1)) (k + 1) = R) := by have h := HR2.out; rw [if_neg hq] at h; exact h
        have hqb : (z.no == no) = false := by simpa using hq
        clear hq hR HR2
        go_wp2_with fail
        go_roundw
        case rel => exact ⟨k + 1, by go_num, by omega, HR3, hbl⟩
        case measure => simp [intOf]; omega
    · have hkk : ¬ (k : Int) < (ls.length : Int) := by omega
      have HR' : Hid (-1 = R) := by
        have h := hR.out
        rw [List.drop_eq_nil_of_le (by rw [List.length_map]; omega), seatFrom] at h
        exact h
      clear hR
      go_wp2
      go_ret
      exact ⟨ret_int HR'.out, hbT⟩
theorem recV_at (rs : List RecA) (k : Nat) : (rs.map RecA.v).getD k zeroR.v = (rs.getD k zeroR).v := by
  simp only [List.getD, List.getElem?_map]
  cases rs[k]? <;> rfl

end Go.Proofs.YtickiokdcbeefabDoor

/- The walk of spec.l5CopyRec. -/
namespace Go.Proofs.YtickiokdcbeefabDoor
open Go.RowKit

/-- A record whose three lists are new. -/
def RecA.with (r : RecA) (t1 t2 : SlotA) (aL : Option Addr) (cL : Nat) : RecA := ⟨r.lsn, r.tx, r.prev, r.kind, r.oid, t1, t2, r.next, r.txs, aL, cL⟩
theorem with_v {r : RecA} {t1 t2 : SlotA} {aL : Option Addr} {cL : Nat} (h1 : t1.v = r.bf.v) (h2 : t2.v = r.af.v) : (r.with t1 t2 aL cL).v = r.v := by simp only [RecA.with, RecA.v, h1, h2]
end Go.Proofs.YtickiokdcbeefabDoor

/- The walk of impl.copyRec. -/
namespace Go.Proofs.YtickiokdcbeefabDoor
open Go.RowKit
attribute [local go_sem ↓] Go.wp_at_zero Go.wp_at_succ

end Go.Proofs.YtickiokdcbeefabDoor

/- The walks of laws.toRecS, toLog, szRecS, szLog, eqRecS, eqLog. -/
namespace Go.Proofs.YtickiokdcbeefabDoor
open Go.RowKit

theorem rep_len (n : Nat) (r : RecA) : (List.replicate n r).length = n := by simp
theorem zero_cellsRs (n : Nat) : (madeCells (Value.agg zeroR.cells.toArray).cells (n * 15)).toList = cellsRs (List.replicate n zeroR) := by
  apply List.ext_getElem?
  intro i
  by_cases h : i < n * 15
  · have e := cellsRs_at (List.replicate n zeroR) (i / 15) (i % 15) (by simp; omega) (Nat.mod_lt _ (by omega))
    rw [show i / 15 * 15 + i % 15 = i by omega] at e
    rw [e]
    have hg : (List.replicate n zeroR).getD (i / 15) zeroR = zeroR := by simp [List.getD, show i / 15 < n by omega]
    rw [hg]
    simp only [madeCells, Array.toList_map, List.getElem?_map, Array.toList_range, List.getElem?_range h, Option.map_some]
    have hm : i % 15 < 15 := Nat.mod_lt _ (by omega)
    have hz : ∀ j, j < 15 → some ((Value.agg zeroR.cells.toArray).cells[j]!) = zeroR.cells[j]? := by
      intro j hj
      rcases (by omega : j = 0 ∨ j = 1 ∨ j = 2 ∨ j = 3 ∨ j = 4 ∨ j = 5 ∨ j = 6 ∨ j = 7 ∨ j = 8 ∨ j = 9 ∨ j = 10 ∨ j = 11 ∨ j = 12 ∨ j = 13 ∨ j = 14) with rfl | rfl | rfl | rfl | rfl | rfl | rfl | rfl | rfl | rfl | rfl | rfl | rfl | rfl | rfl <;> rfl
    exact hz _ hm
  · rw [List.getElem?_eq_none (by simp [size_madeCells]; omega), List.getElem?_eq_none (by rw [cellsRs_len]; simp; omega)]
/-- The first k of a row have come. -/
def Came (rs ts : List RecA) (k : Nat) : Prop := ts.length = k ∧ ts.map RecA.v = (rs.take k).map RecA.v
theorem came_none (rs : List RecA) : Came rs [] 0 := ⟨rfl, by simp⟩
theorem Came.snoc {rs ts : List RecA} {k : Nat} (h : Came rs ts k) (hk : k < rs.length) {q : RecA} (hq : q.v = (rs.getD k zeroR).v) : Came rs (ts ++ [q]) (k + 1) := by
  refine ⟨by simp [h.1], ?_⟩
  have e : rs.getD k zeroR = rs[k] := by simp [List.getD, hk]
  rw [List.map_append, h.2, List.take_succ_eq_append_getElem hk, List.map_append, List.map_singleton, List.map_singleton, hq, e]
theorem Came.all {rs ts : List RecA} (h : Came rs ts rs.length) : ts.map RecA.v = rs.map RecA.v := by
  have := h.2
  rwa [List.take_length] at this
theorem range_below {w w' : World} {b o : Nat} {r : RecA} (h : w.rangeAt b o r.cells) (hb : Below w.heap.size w w') : w'.rangeAt b o r.cells := rangeAt_below h hb (rangeR_lt h)

theorem mapV_nil {ts : List RecA} (h : ts.map RecA.v = ([] : List RecA).map RecA.v) : ts = [] := by simpa using h
/-- The row of a log, handed back. -/
theorem log_cells (rs : List RecA) (s : Int) (a : Option Addr) (c : Nat) : (⟨rs, s, a, c⟩ : LogA).cells = [.slice a rs.length c, .int .i64 s] := rfl

end Go.Proofs.YtickiokdcbeefabDoor

/- What came in, read: a log. -/
namespace Go.Proofs.YtickiokdcbeefabDoor
open Go.ChangeShapes Go.WideShapes Go.ChangeAt Go.RowKit

/-- A log as it came in. -/
structure InLog (w : World) (l : LogA) : Prop where
  recs : ReadsRs w l.a l.recs
  each : ∀ r ∈ l.recs, InRec w r
  len : l.recs.length ≤ maxLen
  num : InI64 l.sure
theorem InLog.short {w : World} {l : LogA} (h : InLog w l) : l.short 9223372036854775807 := ⟨by have := h.len; simp only [maxLen] at this; omega, fun r hr => (h.each r hr).short⟩

section
variable {H : Type} {enc : TypeId × Value → H} {w : World} {base : Nat} {spare : Nat → Bool} {held : Bool}

end
end Go.Proofs.YtickiokdcbeefabDoor

/- What the laws of logs share. -/
namespace Go.Proofs.YtickiokdcbeefabDoor
open Go.RowKit

def zeroLog : LogA := ⟨[], 0, none, 0⟩
theorem LogA.reads.below {w w' : World} {l : LogA} (h : l.reads w) (hb : Below w.heap.size w w') : l.reads w' := ReadsRs.below h hb
def LogA.blocks (l : LogA) : List Nat := blocksRs l.a l.c l.recs
theorem oneLog (l : LogA) : ∀ v ∈ l.cells, v.oneCell' = true := by
  intro v hv
  simp only [LogA.cells, List.mem_cons, List.not_mem_nil, or_false] at hv
  rcases hv with rfl | rfl <;> rfl
theorem InLog.reads {w : World} {l : LogA} (h : InLog w l) : l.reads w := h.recs
theorem log_one (q : LogA) : q.cells.toArray.all (·.oneCell') = true := all_oneCell_toArray (oneLog q)
theorem box2_fill {w : World} {B : Nat} {x0 x1 : Value} {t : TypeId} (b : Box w B [x0, x1] t) (v0 v1 : Value) :
    ∃ W, Hid ((w.setCell ⟨B, 0, none⟩ v0).setCell ⟨B, 1, none⟩ v1 = W) ∧ Box W B [v0, v1] t ∧ Within B (B + 1) w W ∧ W.heap.size = w.heap.size := by
  refine ⟨_, rfl, by simpa using (b.set 0 v0).set 1 v1, (within_set w B 0 v0 (by omega)).trans (within_set _ B 1 v1 (by omega)), by simp⟩
end Go.Proofs.YtickiokdcbeefabDoor
