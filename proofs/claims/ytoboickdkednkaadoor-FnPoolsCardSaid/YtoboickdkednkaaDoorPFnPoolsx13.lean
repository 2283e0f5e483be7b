/- Several texts in one, in their order. -/
import Derived.Test.YtoboickdkednkaaDoorPFnPoolsx12
import Derived.Test.YtoboickdkednkaaDoorPFnPoolsx10
import Derived.Test.YtoboickdkednkaaDoorPFnPoolsx9
import Derived.Deep.CutRange
import Derived.Deep.RegionLaw
import Derived.Deep.DrawnRows
import Derived.Deep.RegionHeld3
import Derived.Test.YtoboickdkednkaaDoorPFnPoolsx11
import Derived.Test.YtoboickdkednkaaDoorPFnPoolsx2
/- The walks that look one up: spec.l7Live, spec.l7Holder, spec.Seated, spec.l7Last. -/
namespace Go.Proofs.YtoboickdkednkaaDoor
open Go.RowKit

/-- Who holds it; 0: nobody. -/
def seatFrom (no : Int) : List SeatV → Nat → Int
  | [], _ => -1
  | l :: r, k => if l.no = no then (k : Int) else seatFrom no r (k + 1)
def seatedOf (ss : List SeatV) (no : Int) : Int := seatFrom no ss 0
theorem dropSt_at (ls : List SeatA) (k : Nat) (h : k < ls.length) : (ls.map SeatA.v).drop k = (ls.getD k zeroSt).v :: (ls.map SeatA.v).drop (k + 1) := by
  rw [List.drop_eq_getElem_cons (by simpa using h)]
  simp [List.getD, h]

set_option maxHeartbeats 1000000 in
set_option maxRecDepth 100000 in
theorem specSeated_any (a : Option Addr) (c : Nat) (ls : List SeatA) (hand no : Int) (w : World) (hr : ReadsSts w a ls) (hl : ls.length ≤ 1099511627776) :
    Calls Tryd.prog 30 #[.agg #[.slice a ls.length c, .int .i64 hand], .int .i64 no] w fun r w' => r = .returned (.int .i64 (seatedOf (ls.map SeatA.v) no)) ∧ Below w.heap.size w w' := by
  obtain ⟨W, hW, b0, hbW, hsW⟩ := boxes1 w [.slice a ls.length c, .int .i64 hand] 26
  have HT : Hid (∀ u, Below W.heap.size W u → u.cell? ⟨w.heap.size, 0, none⟩ = some (.slice a ls.length c)) := fun u hu => (b0.below hu b0.lt).cell 0 _ rfl
  have HR : Hid (∀ u, Below W.heap.size W u → ReadsSts u a ls) := fun u hu => hr.below (hbW.trans (hu.mono hbW.size))
  have HF : Hid (seatFrom no ((ls.map SeatA.v).drop 0) 0 = seatedOf (ls.map SeatA.v) no) := rfl
  generalize seatedOf (ls.map SeatA.v) no = R at *
  clear hsW b0 hr
  go_enter Tryd.func30, Tryd.ntmps30
  go_wp2_with fail
  rw [hW.out]
  clear hW
  go_loopw [5] (fun i wr => ∃ (k : Nat), i = .int .i64 k ∧ k ≤ ls.length ∧ Hid (seatFrom no ((ls.map SeatA.v).drop k) k = R) ∧ Below W.heap.size W wr)
    (fun i _ => ls.length - (intOf i).toNat)
  case atStart => exact ⟨0, rfl, by omega, HF, Below.refl _ _⟩
  case round =>
    obtain ⟨k, rfl, hk, hR, hbl⟩ := hrel
    have x0 := HT.out wr hbl
    have hrr := HR.out wr hbl
    have hbT : Below w.heap.size w wr := hbW.trans (hbl.mono hbW.size)
    by_cases hlt : k < ls.length
    · obtain ⟨b, off, rfl, hcell⟩ := hrr (by rintro rfl; simp at hlt)
      have c0 := (hcell k hlt).1 0 _ rfl
      simp only [Nat.add_zero] at c0
      clear hcell
      have hkk : (k : Int) < (ls.length : Int) := by omega
      have hi0 : (0 : Int) ≤ (k : Int) := by omega
      have HR2 : Hid ((if (ls.getD k zeroSt).no = no then (k : Int) else seatFrom no ((ls.map SeatA.v).drop (k + 1)) (k + 1)) = R) := by
        have h := hR.out
        rw [dropSt_at ls k hlt, seatFrom] at h
        exact h
      generalize ls.getD k zeroSt = z at *
      by_cases hq : z.no = no
      · have HR3 : Hid ((k : Int) = R) := by have h := HR2.out; rw [if_pos hq] at h; exact h
        have hqb : (z.no == no) = true := by simpa using hq
        clear hq hR HR2
        go_wp2
        go_ret
        exact ⟨ret_int HR3.out, hbT⟩
      · have HR3 : Hid (seatFrom no ((ls.map SeatA.v).drop (k + 1)) (k + 1) = R) := by have h := HR2.out; rw [if_neg hq] at h; exact h
        have hqb : (z.no == no) = false := by simpa using hq
        clear hq hR HR2
        go_wp2_with fail
        go_roundw
        case rel => exact ⟨k + 1, by go_num, by omega, HR3, hbl⟩
        case measure => simp [intOf]; omega
    · have hkk : ¬ (k : Int) < (ls.length : Int) := by omega
      have HR' : Hid (-1 = R) := by
        have h := hR.out
        rw [List.drop_eq_nil_of_le (by rw [List.length_map]; omega), seatFrom] at h
        exact h
      clear hR
      go_wp2
      go_ret
      exact ⟨ret_int HR'.out, hbT⟩
end Go.Proofs.YtoboickdkednkaaDoor

/- The walk of spec.l5CopyRec. -/
namespace Go.Proofs.YtoboickdkednkaaDoor
open Go.RowKit

/-- A record whose three lists are new. -/
def RecA.with (r : RecA) (t1 t2 : SlotA) (aL : Option Addr) (cL : Nat) : RecA := ⟨r.lsn, r.tx, r.prev, r.kind, r.oid, t1, t2, r.next, r.txs, aL, cL⟩
end Go.Proofs.YtoboickdkednkaaDoor

/- The walk of impl.copyRec. -/
namespace Go.Proofs.YtoboickdkednkaaDoor
open Go.RowKit
attribute [local go_sem ↓] Go.wp_at_zero Go.wp_at_succ

end Go.Proofs.YtoboickdkednkaaDoor

/- The walks of laws.toRecS, toLog, szRecS, szLog, eqRecS, eqLog. -/
namespace Go.Proofs.YtoboickdkednkaaDoor
open Go.RowKit

/-- The first k of a row have come. -/
def Came (rs ts : List RecA) (k : Nat) : Prop := ts.length = k ∧ ts.map RecA.v = (rs.take k).map RecA.v
theorem Came.snoc {rs ts : List RecA} {k : Nat} (h : Came rs ts k) (hk : k < rs.length) {q : RecA} (hq : q.v = (rs.getD k zeroR).v) : Came rs (ts ++ [q]) (k + 1) := by
  refine ⟨by simp [h.1], ?_⟩
  have e : rs.getD k zeroR = rs[k] := by simp [List.getD, hk]
  rw [List.map_append, h.2, List.take_succ_eq_append_getElem hk, List.map_append, List.map_singleton, List.map_singleton, hq, e]
theorem Came.all {rs ts : List RecA} (h : Came rs ts rs.length) : ts.map RecA.v = rs.map RecA.v := by
  have := h.2
  rwa [List.take_length] at this
end Go.Proofs.YtoboickdkednkaaDoor

/- What came in, read: a log. -/
namespace Go.Proofs.YtoboickdkednkaaDoor
open Go.ChangeShapes Go.WideShapes Go.ChangeAt Go.RowKit

/-- A log as it came in. -/
structure InLog (w : World) (l : LogA) : Prop where
  recs : ReadsRs w l.a l.recs
  each : ∀ r ∈ l.recs, InRec w r
  len : l.recs.length ≤ maxLen
  num : InI64 l.sure
theorem InLog.short {w : World} {l : LogA} (h : InLog w l) : l.short 9223372036854775807 := ⟨by have := h.len; simp only [maxLen] at this; omega, fun r hr => (h.each r hr).short⟩

section
variable {H : Type} {enc : TypeId × Value → H} {w : World} {base : Nat} {spare : Nat → Bool} {held : Bool}

end
end Go.Proofs.YtoboickdkednkaaDoor

/- What the laws of logs share. -/
namespace Go.Proofs.YtoboickdkednkaaDoor
open Go.RowKit

theorem LogA.reads.below {w w' : World} {l : LogA} (h : l.reads w) (hb : Below w.heap.size w w') : l.reads w' := ReadsRs.below h hb
def LogA.blocks (l : LogA) : List Nat := blocksRs l.a l.c l.recs
theorem InLog.reads {w : World} {l : LogA} (h : InLog w l) : l.reads w := h.recs
theorem box2_fill {w : World} {B : Nat} {x0 x1 : Value} {t : TypeId} (b : Box w B [x0, x1] t) (v0 v1 : Value) :
    ∃ W, Hid ((w.setCell ⟨B, 0, none⟩ v0).setCell ⟨B, 1, none⟩ v1 = W) ∧ Box W B [v0, v1] t ∧ Within B (B + 1) w W ∧ W.heap.size = w.heap.size := by
  refine ⟨_, rfl, by simpa using (b.set 0 v0).set 1 v1, (within_set w B 0 v0 (by omega)).trans (within_set _ B 1 v1 (by omega)), by simp⟩
end Go.Proofs.YtoboickdkednkaaDoor

/- The walks of impl.copyRecs and impl.copyLog. -/
namespace Go.Proofs.YtoboickdkednkaaDoor
open Go.RowKit

end Go.Proofs.YtoboickdkednkaaDoor

/- Appending a record as a step of a region that draws its order. -/
namespace Go.Proofs.YtoboickdkednkaaDoor
open Go.RowKit

end Go.Proofs.YtoboickdkednkaaDoor

/- The walk of spec.l5Copy. -/
namespace Go.Proofs.YtoboickdkednkaaDoor
open Go.RowKit
attribute [local go_sem ↓] Go.wp_at_zero Go.wp_at_succ

end Go.Proofs.YtoboickdkednkaaDoor
