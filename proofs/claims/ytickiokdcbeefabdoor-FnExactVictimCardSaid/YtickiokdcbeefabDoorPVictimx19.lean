/- Several texts in one, in their order. -/
import Derived.Test.YtickiokdcbeefabDoorPVictimx18
import Derived.Deep.RegionLaw
import Derived.Deep.DrawnRows
import Derived.Test.YtickiokdcbeefabDoorPVictimx17
import Derived.Test.YtickiokdcbeefabDoorPVictimx13
import Derived.Test.YtickiokdcbeefabDoorPVictimx12
import Derived.Test.YtickiokdcbeefabDoorPVictimx6
import Derived.Test.YtickiokdcbeefabDoorPVictimx9
import Derived.Test.YtickiokdcbeefabDoorPVictimx16
import Derived.Deep.QuietTactic
import Derived.BigQuiet
/- The walks of impl.copyRecs and impl.copyLog. -/
namespace Go.Proofs.YtickiokdcbeefabDoor
open Go.RowKit

end Go.Proofs.YtickiokdcbeefabDoor

/- Appending a record as a step of a region that draws its order. -/
namespace Go.Proofs.YtickiokdcbeefabDoor
open Go.RowKit

end Go.Proofs.YtickiokdcbeefabDoor

/- The walk of spec.l5Copy. -/
namespace Go.Proofs.YtickiokdcbeefabDoor
open Go.RowKit
attribute [local go_sem ↓] Go.wp_at_zero Go.wp_at_succ

theorem lit_rec (q : RecA) : List.foldl (fun cs x => cs.setIfInBounds x.snd x.fst) (#[.int .i64 0, .int .i64 0, .int .i64 0, .int .i64 0, .int .i64 0, .bool false, .int .i64 0, .slice none 0 0, .slice none 0 0, .bool false, .int .i64 0, .slice none 0 0, .slice none 0 0, .int .i64 0, .slice none 0 0] : Array Value) q.cells.zipIdx = q.cells.toArray := by simp [RecA.cells, List.zipIdx]

end Go.Proofs.YtickiokdcbeefabDoor

/- Logs: when they are right, what is made of them. -/
namespace Go.Proofs.YtickiokdcbeefabDoor
open Go.RowKit

theorem zeroR_v : zeroR.v = noR := rfl
theorem getD_v (rs : List RecA) (k : Nat) : (rs.map RecA.v).getD k noR = (rs.getD k zeroR).v := by
  simp only [List.getD, List.getElem?_map]
  cases rs[k]? <;> rfl
def okAt (rs : List RecV) (k : Nat) : Bool := ((rs.getD k noR).lsn == (k + 1 : Int)) && okR (rs.getD k noR)
/-- Is the log right? -/
def okLog (l : LogV) : Bool := decide (l.recs.length ≤ 4000) && (inB l.sure 0 l.recs.length && (List.range l.recs.length).all (okAt l.recs))
theorem okLog_len {l : LogV} (h : ¬ l.recs.length ≤ 4000) : okLog l = false := by simp [okLog, h]
theorem okLog_sure {l : LogV} (h : inB l.sure 0 l.recs.length = false) : okLog l = false := by simp [okLog, h]
theorem okLog_no {l : LogV} (k : Nat) (hk : k < l.recs.length) (h : okAt l.recs k = false) : okLog l = false := by
  have : (List.range l.recs.length).all (okAt l.recs) = false := by
    rw [List.all_eq_false]
    exact ⟨k, List.mem_range.2 hk, by rw [h]; decide⟩
  simp [okLog, this]
theorem okLog_all {l : LogV} (h0 : l.recs.length ≤ 4000) (h1 : inB l.sure 0 l.recs.length = true) (h : ∀ k, k < l.recs.length → okAt l.recs k = true) : okLog l = true := by
  have : (List.range l.recs.length).all (okAt l.recs) = true := by
    rw [List.all_eq_true]
    exact fun k hk => h k (List.mem_range.1 hk)
  simp [okLog, this, h0, h1]
theorem okLog_yes {l : LogV} (h : okLog l = true) : l.recs.length ≤ 4000 ∧ 0 ≤ l.sure ∧ l.sure ≤ l.recs.length ∧ ∀ k, k < l.recs.length → (l.recs.getD k noR).lsn = (k + 1 : Int) ∧ okR (l.recs.getD k noR) = true := by
  simp only [okLog, Bool.and_eq_true, decide_eq_true_eq, List.all_eq_true, List.mem_range, okAt, beq_iff_eq, inB] at h
  exact ⟨h.1, h.2.1.1, h.2.1.2, h.2.2⟩
theorem LogA.v_len (l : LogA) : l.v.recs.length = l.recs.length := by simp [LogA.v]
theorem LogA.v_at (l : LogA) (k : Nat) : l.v.recs.getD k noR = (l.recs.getD k zeroR).v := getD_v l.recs k
theorem okAt_v (l : LogA) (k : Nat) : okAt l.v.recs k = (((l.recs.getD k zeroR).lsn == (k + 1 : Int)) && okR (l.recs.getD k zeroR).v) := by
  unfold okAt
  rw [l.v_at]
  rfl

def lsnR (r : RecV) (n : Int) : RecV := { r with lsn := n }
def appendOf (l : LogV) (r : RecV) : LogV × Int :=
  if okLog l = true ∧ l.recs.length ≠ 4000 ∧ okR (lsnR r (l.recs.length + 1)) = true then (⟨l.recs ++ [lsnR r (l.recs.length + 1)], l.sure⟩, l.recs.length + 1) else (l, 0)
def forceOf (l : LogV) (n : Int) : LogV := if okLog l = true then ⟨l.recs, max l.sure (min n l.recs.length)⟩ else l
def leftOf (l : LogV) (keep : Int) : Nat := if keep < l.recs.length - l.sure then (l.sure + keep).toNat else l.recs.length
def tearOf (l : LogV) (keep : Int) : LogV := if okLog l = true ∧ 0 ≤ keep then ⟨l.recs.take (leftOf l keep), leftOf l keep⟩ else l
def logBytesOf (l : LogV) : List Int := if okLog l = true then l.recs.flatMap (fun r => frameOf (putRecOf r)) else []
end Go.Proofs.YtickiokdcbeefabDoor

/- The walks of slices.Equal over what is under way, impl.sameSlot and impl.sameRec. -/
namespace Go.Proofs.YtickiokdcbeefabDoor
open Go.RowKit

def sameL (a b : LiveV) : Bool := decide (a.tx = b.tx) && (decide (a.last = b.last) && (a.aborts == b.aborts))
theorem sameL_iff {a b : LiveV} : sameL a b = true ↔ a = b := by
  obtain ⟨a1, a2, a3⟩ := a
  obtain ⟨b1, b2, b3⟩ := b
  simp [sameL]
def sameLs (xs ys : List LiveV) : Bool := decide (xs.length = ys.length) && (List.range xs.length).all fun k => sameL (xs.getD k zeroL) (ys.getD k zeroL)
theorem sameLs_len {xs ys : List LiveV} (h : ¬ xs.length = ys.length) : sameLs xs ys = false := by simp [sameLs, h]
theorem sameLs_no {xs ys : List LiveV} (k : Nat) (hk : k < xs.length) (h : sameL (xs.getD k zeroL) (ys.getD k zeroL) = false) : sameLs xs ys = false := by
  have : ((List.range xs.length).all fun k => sameL (xs.getD k zeroL) (ys.getD k zeroL)) = false := by
    rw [List.all_eq_false]
    exact ⟨k, List.mem_range.2 hk, by rw [h]; decide⟩
  unfold sameLs
  rw [this, Bool.and_false]
theorem sameLs_all {xs ys : List LiveV} (hl : xs.length = ys.length) (h : ∀ k, k < xs.length → sameL (xs.getD k zeroL) (ys.getD k zeroL) = true) : sameLs xs ys = true := by
  have : ((List.range xs.length).all fun k => sameL (xs.getD k zeroL) (ys.getD k zeroL)) = true := by
    rw [List.all_eq_true]
    exact fun k hk => h k (List.mem_range.1 hk)
  unfold sameLs
  rw [this, Bool.and_true]
  exact decide_eq_true hl
theorem sameLs_refl (xs : List LiveV) : sameLs xs xs = true := sameLs_all rfl (fun _ _ => sameL_iff.2 rfl)
theorem sameLs_nil (xs : List LiveV) : sameLs [] xs = decide (xs.length = 0) := by
  cases xs with
  | nil => rfl
  | cons x r => rw [sameLs_len (by simp)]; simp

def sameS (a b : SlotV) : Bool := (a.has == b.has) && sameO a.o b.o
def sameR (r t : RecV) : Bool := ((r.lsn == t.lsn) && ((r.tx == t.tx) && ((r.prev == t.prev) && ((r.kind == t.kind) && ((r.oid == t.oid) && (sameS r.bf t.bf && (sameS r.af t.af && ((r.next == t.next) && sameLs r.txs t.txs))))))))
end Go.Proofs.YtickiokdcbeefabDoor

/- The walk of impl.RecOk. -/
namespace Go.Proofs.YtickiokdcbeefabDoor
open Go.RowKit

/-- Is what the record tells right? -/
def deedB (n : Int) (r : RecV) : Bool :=
  if r.kind == 1 then (linkB n r.tx r.prev && (inB r.oid 1 31 && (slotB r.bf && slotB r.af)))
  else if r.kind == 2 then linkB n r.tx r.prev
  else if r.kind == 3 then linkB n r.tx r.prev
  else if r.kind == 4 then (linkB n r.tx r.prev && (inB r.oid 1 31 && (slotB r.af && inB r.next 0 (n - 1))))
  else if r.kind == 5 then linkB n r.tx r.prev
  else if r.kind == 6 then livesB n r.txs
  else false
/-- The record that tells this and nothing else. -/
def cutA (n : Int) (r : RecA) : RecA :=
  if r.kind == 1 then ⟨n, r.tx, r.prev, 1, r.oid, r.bf, r.af, 0, [], none, 0⟩
  else if r.kind == 2 then recA n r.tx r.prev 2
  else if r.kind == 3 then recA n r.tx r.prev 3
  else if r.kind == 4 then ⟨n, r.tx, r.prev, 4, r.oid, zeroS, r.af, r.next, [], none, 0⟩
  else if r.kind == 5 then recA n r.tx r.prev 5
  else if r.kind == 6 then ⟨n, 0, 0, 6, 0, zeroS, zeroS, 0, r.txs, r.aL, r.cL⟩
  else recA 0 0 0 0
theorem one_fit {s : SlotA} (h : s.v.o.ints.length ≤ 1099511627776 ∧ s.v.o.refs.length ≤ 1099511627776) : Fit [s] := fun t ht => by obtain rfl := List.mem_singleton.1 ht; exact h

theorem cutA_reads (n : Int) {r : RecA} {w : World} (h : r.reads w) : (cutA n r).reads w := by
  have z : zeroS.reads w := ⟨ReadsI.nil _ _, ReadsI.nil _ _, fun _ => rfl, fun _ => rfl⟩
  have y : ReadsL w none [] := ReadsL.nil _ _
  unfold cutA
  split
  · exact ⟨h.bf, h.af, y⟩
  split
  · exact ⟨z, z, y⟩
  split
  · exact ⟨z, z, y⟩
  split
  · exact ⟨z, h.af, y⟩
  split
  · exact ⟨z, z, y⟩
  split
  · exact ⟨z, z, h.txs⟩
  · exact ⟨z, z, y⟩
theorem cutA_short (n : Int) {r : RecA} {m : Nat} (h : r.short m) : (cutA n r).short m := by
  have z : zeroS.v.o.ints.length ≤ m ∧ zeroS.v.o.refs.length ≤ m := ⟨Nat.zero_le _, Nat.zero_le _⟩
  have y : ([] : List LiveV).length ≤ m := Nat.zero_le _
  unfold cutA
  split
  · exact ⟨h.bf, h.af, y⟩
  split
  · exact ⟨z, z, y⟩
  split
  · exact ⟨z, z, y⟩
  split
  · exact ⟨z, h.af, y⟩
  split
  · exact ⟨z, z, y⟩
  split
  · exact ⟨z, z, h.txs⟩
  · exact ⟨z, z, y⟩
theorem isNo_same (v : SlotV) : sameS noS v = isNo v := by
  obtain ⟨h, k, i, f⟩ := v
  cases h
  · simp [sameS, isNo, noS, noO, sameO, eq_comm]
  · simp [sameS, isNo, noS]
theorem sameS_refl (v : SlotV) : sameS v v = true := by simp [sameS, sameO]
theorem isNo_slot {v : SlotV} (h : isNo v = true) : slotB v = true := by
  obtain ⟨b, k, i, f⟩ := v
  cases b
  · simp [isNo, sameO] at h
    simp [slotB, h]
  · simp [isNo] at h
theorem zeroV : zeroS.v = noS := rfl

theorem okV_set (n t v o : Int) (b a : SlotV) (x : Int) (l : List LiveV) : ((inB n 1 1000000 && ((linkB n t v && (inB o 1 31 && (slotB b && slotB a))) && sameR ⟨n, t, v, 1, o, b, a, 0, []⟩ ⟨n, t, v, 1, o, b, a, x, l⟩)) = true) ↔ okR ⟨n, t, v, 1, o, b, a, x, l⟩ = true := by
  have hb : isNo b = true → slotB b = true := isNo_slot
  have ha : isNo a = true → slotB a = true := isNo_slot
  simp only [sameR, sameS_refl, sameLs_nil, okR, zeroB, linkB, Bool.and_eq_true, beq_self_eq_true, beq_iff_eq, decide_eq_true_eq, Bool.true_or, Bool.false_or]
  generalize isNo b = ib at *
  generalize isNo a = ia at *
  generalize slotB b = sb at *
  generalize slotB a = sa at *
  by_cases hl : l = []
  all_goals cases ib <;> cases ia <;> cases sb <;> cases sa <;> simp [inB, hl] at hb ha ⊢ <;> omega
theorem okR_set (r : RecA) (hk : r.kind = 1) : ((inB r.lsn 1 1000000 && ((linkB r.lsn r.tx r.prev && (inB r.oid 1 31 && (slotB r.bf.v && slotB r.af.v))) && sameR (RecA.v (⟨r.lsn, r.tx, r.prev, 1, r.oid, r.bf, r.af, 0, [], none, 0⟩)) r.v)) = true) ↔ okR r.v = true := by
  obtain ⟨n, t, v, k, o, b, a, x, l, aL, cL⟩ := r
  simp only at hk
  subst hk
  exact okV_set n t v o b.v a.v x l
theorem okV_commit (n t v o : Int) (b a : SlotV) (x : Int) (l : List LiveV) : ((inB n 1 1000000 && (linkB n t v && sameR ⟨n, t, v, 2, 0, noS, noS, 0, []⟩ ⟨n, t, v, 2, o, b, a, x, l⟩)) = true) ↔ okR ⟨n, t, v, 2, o, b, a, x, l⟩ = true := by
  have hb : isNo b = true → slotB b = true := isNo_slot
  have ha : isNo a = true → slotB a = true := isNo_slot
  simp only [sameR, isNo_same, sameLs_nil, okR, zeroB, linkB, Bool.and_eq_true, beq_self_eq_true, beq_iff_eq, decide_eq_true_eq, Bool.true_or, Bool.false_or]
  generalize isNo b = ib at *
  generalize isNo a = ia at *
  generalize slotB b = sb at *
  generalize slotB a = sa at *
  by_cases hl : l = []
  all_goals cases ib <;> cases ia <;> cases sb <;> cases sa <;> simp [inB, hl] at hb ha ⊢ <;> omega
theorem okR_commit (r : RecA) (hk : r.kind = 2) : ((inB r.lsn 1 1000000 && (linkB r.lsn r.tx r.prev && sameR (RecA.v (recA r.lsn r.tx r.prev 2)) r.v)) = true) ↔ okR r.v = true := by
  obtain ⟨n, t, v, k, o, b, a, x, l, aL, cL⟩ := r
  simp only at hk
  subst hk
  exact okV_commit n t v o b.v a.v x l
theorem okV_abort (n t v o : Int) (b a : SlotV) (x : Int) (l : List LiveV) : ((inB n 1 1000000 && (linkB n t v && sameR ⟨n, t, v, 3, 0, noS, noS, 0, []⟩ ⟨n, t, v, 3, o, b, a, x, l⟩)) = true) ↔ okR ⟨n, t, v, 3, o, b, a, x, l⟩ = true := by
  have hb : isNo b = true → slotB b = true := isNo_slot
  have ha : isNo a = true → slotB a = true := isNo_slot
  simp only [sameR, isNo_same, sameLs_nil, okR, zeroB, linkB, Bool.and_eq_true, beq_self_eq_true, beq_iff_eq, decide_eq_true_eq, Bool.true_or, Bool.false_or]
  generalize isNo b = ib at *
  generalize isNo a = ia at *
  generalize slotB b = sb at *
  generalize slotB a = sa at *
  by_cases hl : l = []
  all_goals cases ib <;> cases ia <;> cases sb <;> cases sa <;> simp [inB, hl] at hb ha ⊢ <;> omega
theorem okR_abort (r : RecA) (hk : r.kind = 3) : ((inB r.lsn 1 1000000 && (linkB r.lsn r.tx r.prev && sameR (RecA.v (recA r.lsn r.tx r.prev 3)) r.v)) = true) ↔ okR r.v = true := by
  obtain ⟨n, t, v, k, o, b, a, x, l, aL, cL⟩ := r
  simp only at hk
  subst hk
  exact okV_abort n t v o b.v a.v x l
theorem okV_back (n t v o : Int) (b a : SlotV) (x : Int) (l : List LiveV) : ((inB n 1 1000000 && ((linkB n t v && (inB o 1 31 && (slotB a && inB x 0 (n - 1)))) && sameR ⟨n, t, v, 4, o, noS, a, x, []⟩ ⟨n, t, v, 4, o, b, a, x, l⟩)) = true) ↔ okR ⟨n, t, v, 4, o, b, a, x, l⟩ = true := by
  have hb : isNo b = true → slotB b = true := isNo_slot
  have ha : isNo a = true → slotB a = true := isNo_slot
  simp only [sameR, isNo_same, sameS_refl, sameLs_nil, okR, zeroB, linkB, Bool.and_eq_true, beq_self_eq_true, beq_iff_eq, decide_eq_true_eq, Bool.true_or, Bool.false_or]
  generalize isNo b = ib at *
  generalize isNo a = ia at *
  generalize slotB b = sb at *
  generalize slotB a = sa at *
  by_cases hl : l = []
  all_goals cases ib <;> cases ia <;> cases sb <;> cases sa <;> simp [inB, hl] at hb ha ⊢ <;> omega
theorem okR_back (r : RecA) (hk : r.kind = 4) : ((inB r.lsn 1 1000000 && ((linkB r.lsn r.tx r.prev && (inB r.oid 1 31 && (slotB r.af.v && inB r.next 0 (r.lsn - 1)))) && sameR (RecA.v (⟨r.lsn, r.tx, r.prev, 4, r.oid, zeroS, r.af, r.next, [], none, 0⟩)) r.v)) = true) ↔ okR r.v = true := by
  obtain ⟨n, t, v, k, o, b, a, x, l, aL, cL⟩ := r
  simp only at hk
  subst hk
  exact okV_back n t v o b.v a.v x l
theorem okV_end (n t v o : Int) (b a : SlotV) (x : Int) (l : List LiveV) : ((inB n 1 1000000 && (linkB n t v && sameR ⟨n, t, v, 5, 0, noS, noS, 0, []⟩ ⟨n, t, v, 5, o, b, a, x, l⟩)) = true) ↔ okR ⟨n, t, v, 5, o, b, a, x, l⟩ = true := by
  have hb : isNo b = true → slotB b = true := isNo_slot
  have ha : isNo a = true → slotB a = true := isNo_slot
  simp only [sameR, isNo_same, sameLs_nil, okR, zeroB, linkB, Bool.and_eq_true, beq_self_eq_true, beq_iff_eq, decide_eq_true_eq, Bool.true_or, Bool.false_or]
  generalize isNo b = ib at *
  generalize isNo a = ia at *
  generalize slotB b = sb at *
  generalize slotB a = sa at *
  by_cases hl : l = []
  all_goals cases ib <;> cases ia <;> cases sb <;> cases sa <;> simp [inB, hl] at hb ha ⊢ <;> omega
theorem okR_end (r : RecA) (hk : r.kind = 5) : ((inB r.lsn 1 1000000 && (linkB r.lsn r.tx r.prev && sameR (RecA.v (recA r.lsn r.tx r.prev 5)) r.v)) = true) ↔ okR r.v = true := by
  obtain ⟨n, t, v, k, o, b, a, x, l, aL, cL⟩ := r
  simp only at hk
  subst hk
  exact okV_end n t v o b.v a.v x l
theorem okV_check (n t v o : Int) (b a : SlotV) (x : Int) (l : List LiveV) : ((inB n 1 1000000 && (livesB n l && sameR ⟨n, 0, 0, 6, 0, noS, noS, 0, l⟩ ⟨n, t, v, 6, o, b, a, x, l⟩)) = true) ↔ okR ⟨n, t, v, 6, o, b, a, x, l⟩ = true := by
  have hb : isNo b = true → slotB b = true := isNo_slot
  have ha : isNo a = true → slotB a = true := isNo_slot
  simp only [sameR, isNo_same, sameLs_refl, okR, zeroB, Bool.and_eq_true, beq_self_eq_true, beq_iff_eq, Bool.true_or, Bool.false_or]
  generalize isNo b = ib at *
  generalize isNo a = ia at *
  generalize slotB b = sb at *
  generalize slotB a = sa at *
  generalize livesB n l = L at *
  all_goals cases L <;> cases ib <;> cases ia <;> cases sb <;> cases sa <;> simp [inB] at hb ha ⊢ <;> omega
theorem okR_check (r : RecA) (hk : r.kind = 6) : ((inB r.lsn 1 1000000 && (livesB r.lsn r.txs && sameR (RecA.v (⟨r.lsn, 0, 0, 6, 0, zeroS, zeroS, 0, r.txs, r.aL, r.cL⟩)) r.v)) = true) ↔ okR r.v = true := by
  obtain ⟨n, t, v, k, o, b, a, x, l, aL, cL⟩ := r
  simp only at hk
  subst hk
  exact okV_check n t v o b.v a.v x l
/-- The landed code's test is the model's. -/
theorem okR_eq (r : RecA) : (inB r.lsn 1 1000000 && (deedB r.lsn r.v && sameR (cutA r.lsn r).v r.v)) = okR r.v := by
  rw [Bool.eq_iff_iff]
  cases k1 : (r.kind == 1) with
  | true =>
    have e2 : deedB r.lsn r.v = (linkB r.lsn r.tx r.prev && (inB r.oid 1 31 && (slotB r.bf.v && slotB r.af.v))) := by simp [deedB, RecA.v, k1]
    have e3 : cutA r.lsn r = ⟨r.lsn, r.tx, r.prev, 1, r.oid, r.bf, r.af, 0, [], none, 0⟩ := by simp [cutA, k1]
    rw [e2, e3]
    have hk : r.kind = 1 := by simpa using k1
    exact okR_set _ (by simpa using k1)
  | false =>
    cases k2 : (r.kind == 2) with
    | true =>
      have e2 : deedB r.lsn r.v = linkB r.lsn r.tx r.prev := by simp [deedB, RecA.v, k1, k2]
      have e3 : cutA r.lsn r = recA r.lsn r.tx r.prev 2 := by simp [cutA, k1, k2]
      rw [e2, e3]
      have hk : r.kind = 2 := by simpa using k2
      exact okR_commit _ (by simpa using k2)
    | false =>
      cases k3 : (r.kind == 3) with
      | true =>
        have e2 : deedB r.lsn r.v = linkB r.lsn r.tx r.prev := by simp [deedB, RecA.v, k1, k2, k3]
        have e3 : cutA r.lsn r = recA r.lsn r.tx r.prev 3 := by simp [cutA, k1, k2, k3]
        rw [e2, e3]
        have hk : r.kind = 3 := by simpa using k3
        exact okR_abort _ (by simpa using k3)
      | false =>
        cases k4 : (r.kind == 4) with
        | true =>
          have e2 : deedB r.lsn r.v = (linkB r.lsn r.tx r.prev && (inB r.oid 1 31 && (slotB r.af.v && inB r.next 0 (r.lsn - 1)))) := by simp [deedB, RecA.v, k1, k2, k3, k4]
          have e3 : cutA r.lsn r = ⟨r.lsn, r.tx, r.prev, 4, r.oid, zeroS, r.af, r.next, [], none, 0⟩ := by simp [cutA, k1, k2, k3, k4]
          rw [e2, e3]
          have hk : r.kind = 4 := by simpa using k4
          exact okR_back _ (by simpa using k4)
        | false =>
          cases k5 : (r.kind == 5) with
          | true =>
            have e2 : deedB r.lsn r.v = linkB r.lsn r.tx r.prev := by simp [deedB, RecA.v, k1, k2, k3, k4, k5]
            have e3 : cutA r.lsn r = recA r.lsn r.tx r.prev 5 := by simp [cutA, k1, k2, k3, k4, k5]
            rw [e2, e3]
            have hk : r.kind = 5 := by simpa using k5
            exact okR_end _ (by simpa using k5)
          | false =>
            cases k6 : (r.kind == 6) with
            | true =>
              have e2 : deedB r.lsn r.v = livesB r.lsn r.txs := by simp [deedB, RecA.v, k1, k2, k3, k4, k5, k6]
              have e3 : cutA r.lsn r = ⟨r.lsn, 0, 0, 6, 0, zeroS, zeroS, 0, r.txs, r.aL, r.cL⟩ := by simp [cutA, k1, k2, k3, k4, k5, k6]
              rw [e2, e3]
              have hk : r.kind = 6 := by simpa using k6
              exact okR_check _ (by simpa using k6)
            | false =>
              have e2 : deedB r.lsn r.v = false := by simp [deedB, RecA.v, k1, k2, k3, k4, k5, k6]
              have e3 : okR r.v = false := by simp [okR, RecA.v, k1, k2, k3, k4, k5, k6]
              rw [e2, e3]
              simp
end Go.Proofs.YtickiokdcbeefabDoor
