/- Several texts in one, in their order. -/
import Derived.Test.YtjaojcgfgkppgaaGreatDoorPart11
import Derived.Test.YtjaojcgfgkppgaaGreatDoorPart10
import Derived.Deep.MidRow
import Derived.Deep.RegionHeld3
import Derived.Test.YtjaojcgfgkppgaaGreatDoorPart4
import Derived.Test.YtjaojcgfgkppgaaGreatDoorPart5
import Derived.Test.YtjaojcgfgkppgaaGreatDoorPart2
import Derived.Test.YtjaojcgfgkppgaaGreatDoorPart8
import Derived.Lib.AppendStr
import Derived.Lib.OthersKept
import Derived.Laws.DeepStrings4
/- The walk of impl.RecOk. -/
namespace Go.Proofs.YtjaojcgfgkppgaaGreatDoor
open Go.RowKit

/-- Is what the record tells right? -/
def deedB (n : Int) (r : RecV) : Bool :=
  if r.kind == 1 then (linkB n r.tx r.prev && (inB r.oid 1 31 && (slotB r.bf && slotB r.af)))
  else if r.kind == 2 then linkB n r.tx r.prev
  else if r.kind == 3 then linkB n r.tx r.prev
  else if r.kind == 4 then (linkB n r.tx r.prev && (inB r.oid 1 31 && (slotB r.af && inB r.next 0 (n - 1))))
  else if r.kind == 5 then linkB n r.tx r.prev
  else if r.kind == 6 then livesB n r.txs
  else false
/-- The record that tells this and nothing else. -/
def cutA (n : Int) (r : RecA) : RecA :=
  if r.kind == 1 then ⟨n, r.tx, r.prev, 1, r.oid, r.bf, r.af, 0, [], none, 0⟩
  else if r.kind == 2 then recA n r.tx r.prev 2
  else if r.kind == 3 then recA n r.tx r.prev 3
  else if r.kind == 4 then ⟨n, r.tx, r.prev, 4, r.oid, zeroS, r.af, r.next, [], none, 0⟩
  else if r.kind == 5 then recA n r.tx r.prev 5
  else if r.kind == 6 then ⟨n, 0, 0, 6, 0, zeroS, zeroS, 0, r.txs, r.aL, r.cL⟩
  else recA 0 0 0 0
theorem one_fit {s : SlotA} (h : s.v.o.ints.length ≤ 1099511627776 ∧ s.v.o.refs.length ≤ 1099511627776) : Fit [s] := fun t ht => by obtain rfl := List.mem_singleton.1 ht; exact h

theorem deedOk_any (n : Int) (r : RecA) (w : World) (hg : ErrT w) (hr : r.reads w) (hl : r.short 1099511627776) :
    Calls Tryz.prog 62 #[.int .i64 n, deedV r] w fun e w' => e = .returned (.bool (deedB n r.v)) ∧ Below w.heap.size w w' := by
  cases k1 : (r.kind == 1) with
  | true =>
    have e1 : deedV r = issetDeed (setD r.tx r.prev r.oid r.bf r.af) := by simp [deedV, k1]
    have e2 : deedB n r.v = (linkB n r.tx r.prev && (inB r.oid 1 31 && (slotB r.bf.v && slotB r.af.v))) := by simp [deedB, RecA.v, k1]
    rw [e1, e2]
    exact deedOk_set n r.tx r.prev r.oid r.bf r.af w hg hr.bf hr.af (one_fit hl.bf) (one_fit hl.af)
  | false =>
    cases k2 : (r.kind == 2) with
    | true =>
      have e1 : deedV r = iscommitDeed (linkD r.tx r.prev) := by simp [deedV, k1, k2]
      have e2 : deedB n r.v = linkB n r.tx r.prev := by simp [deedB, RecA.v, k1, k2]
      rw [e1, e2]
      exact deedOk_commit n r.tx r.prev w
    | false =>
      cases k3 : (r.kind == 3) with
      | true =>
        have e1 : deedV r = isabortDeed (linkD r.tx r.prev) := by simp [deedV, k1, k2, k3]
        have e2 : deedB n r.v = linkB n r.tx r.prev := by simp [deedB, RecA.v, k1, k2, k3]
        rw [e1, e2]
        exact deedOk_abort n r.tx r.prev w
      | false =>
        cases k4 : (r.kind == 4) with
        | true =>
          have e1 : deedV r = isbackDeed (backD r.tx r.prev r.oid r.af r.next) := by simp [deedV, k1, k2, k3, k4]
          have e2 : deedB n r.v = (linkB n r.tx r.prev && (inB r.oid 1 31 && (slotB r.af.v && inB r.next 0 (n - 1)))) := by simp [deedB, RecA.v, k1, k2, k3, k4]
          rw [e1, e2]
          exact deedOk_back n r.tx r.prev r.oid r.af r.next w hg hr.af (one_fit hl.af)
        | false =>
          cases k5 : (r.kind == 5) with
          | true =>
            have e1 : deedV r = isendDeed (linkD r.tx r.prev) := by simp [deedV, k1, k2, k3, k4, k5]
            have e2 : deedB n r.v = linkB n r.tx r.prev := by simp [deedB, RecA.v, k1, k2, k3, k4, k5]
            rw [e1, e2]
            exact deedOk_end n r.tx r.prev w
          | false =>
            cases k6 : (r.kind == 6) with
            | true =>
              have e1 : deedV r = ischeckDeed (checkD r.txs r.aL r.cL) := by simp [deedV, k1, k2, k3, k4, k5, k6]
              have e2 : deedB n r.v = livesB n r.txs := by simp [deedB, RecA.v, k1, k2, k3, k4, k5, k6]
              rw [e1, e2]
              exact deedOk_check n r.txs r.aL r.cL w hr.txs hl.txs
            | false =>
              have e1 : deedV r = .nilIface := by simp [deedV, k1, k2, k3, k4, k5, k6]
              have e2 : deedB n r.v = false := by simp [deedB, RecA.v, k1, k2, k3, k4, k5, k6]
              rw [e1, e2]
              exact deedOk_nil n w
theorem recOf_any (n : Int) (r : RecA) (w : World) :
    Calls Tryz.prog 64 #[.int .i64 n, deedV r] w fun e w' => e = .returned (.agg (cutA n r).cells.toArray) ∧ Below w.heap.size w w' := by
  cases k1 : (r.kind == 1) with
  | true =>
    have e1 : deedV r = issetDeed (setD r.tx r.prev r.oid r.bf r.af) := by simp [deedV, k1]
    have e2 : cutA n r = ⟨n, r.tx, r.prev, 1, r.oid, r.bf, r.af, 0, [], none, 0⟩ := by simp [cutA, k1]
    rw [e1, e2]
    exact recOf_set n r.tx r.prev r.oid r.bf r.af w
  | false =>
    cases k2 : (r.kind == 2) with
    | true =>
      have e1 : deedV r = iscommitDeed (linkD r.tx r.prev) := by simp [deedV, k1, k2]
      have e2 : cutA n r = recA n r.tx r.prev 2 := by simp [cutA, k1, k2]
      rw [e1, e2]
      exact recOf_commit n r.tx r.prev w
    | false =>
      cases k3 : (r.kind == 3) with
      | true =>
        have e1 : deedV r = isabortDeed (linkD r.tx r.prev) := by simp [deedV, k1, k2, k3]
        have e2 : cutA n r = recA n r.tx r.prev 3 := by simp [cutA, k1, k2, k3]
        rw [e1, e2]
        exact recOf_abort n r.tx r.prev w
      | false =>
        cases k4 : (r.kind == 4) with
        | true =>
          have e1 : deedV r = isbackDeed (backD r.tx r.prev r.oid r.af r.next) := by simp [deedV, k1, k2, k3, k4]
          have e2 : cutA n r = ⟨n, r.tx, r.prev, 4, r.oid, zeroS, r.af, r.next, [], none, 0⟩ := by simp [cutA, k1, k2, k3, k4]
          rw [e1, e2]
          exact recOf_back n r.tx r.prev r.oid r.af r.next w
        | false =>
          cases k5 : (r.kind == 5) with
          | true =>
            have e1 : deedV r = isendDeed (linkD r.tx r.prev) := by simp [deedV, k1, k2, k3, k4, k5]
            have e2 : cutA n r = recA n r.tx r.prev 5 := by simp [cutA, k1, k2, k3, k4, k5]
            rw [e1, e2]
            exact recOf_end n r.tx r.prev w
          | false =>
            cases k6 : (r.kind == 6) with
            | true =>
              have e1 : deedV r = ischeckDeed (checkD r.txs r.aL r.cL) := by simp [deedV, k1, k2, k3, k4, k5, k6]
              have e2 : cutA n r = ⟨n, 0, 0, 6, 0, zeroS, zeroS, 0, r.txs, r.aL, r.cL⟩ := by simp [cutA, k1, k2, k3, k4, k5, k6]
              rw [e1, e2]
              exact recOf_check n r.txs r.aL r.cL w
            | false =>
              have e1 : deedV r = .nilIface := by simp [deedV, k1, k2, k3, k4, k5, k6]
              have e2 : cutA n r = recA 0 0 0 0 := by simp [cutA, k1, k2, k3, k4, k5, k6]
              rw [e1, e2]
              exact recOf_nil n w
theorem cutA_reads (n : Int) {r : RecA} {w : World} (h : r.reads w) : (cutA n r).reads w := by
  have z : zeroS.reads w := ⟨ReadsI.nil _ _, ReadsI.nil _ _, fun _ => rfl, fun _ => rfl⟩
  have y : ReadsL w none [] := ReadsL.nil _ _
  unfold cutA
  split
  · exact ⟨h.bf, h.af, y⟩
  split
  · exact ⟨z, z, y⟩
  split
  · exact ⟨z, z, y⟩
  split
  · exact ⟨z, h.af, y⟩
  split
  · exact ⟨z, z, y⟩
  split
  · exact ⟨z, z, h.txs⟩
  · exact ⟨z, z, y⟩
theorem cutA_short (n : Int) {r : RecA} {m : Nat} (h : r.short m) : (cutA n r).short m := by
  have z : zeroS.v.o.ints.length ≤ m ∧ zeroS.v.o.refs.length ≤ m := ⟨Nat.zero_le _, Nat.zero_le _⟩
  have y : ([] : List LiveV).length ≤ m := Nat.zero_le _
  unfold cutA
  split
  · exact ⟨h.bf, h.af, y⟩
  split
  · exact ⟨z, z, y⟩
  split
  · exact ⟨z, z, y⟩
  split
  · exact ⟨z, h.af, y⟩
  split
  · exact ⟨z, z, y⟩
  split
  · exact ⟨z, z, h.txs⟩
  · exact ⟨z, z, y⟩
theorem isNo_same (v : SlotV) : sameS noS v = isNo v := by
  obtain ⟨h, k, i, f⟩ := v
  cases h
  · simp [sameS, isNo, noS, noO, sameO, eq_comm]
  · simp [sameS, isNo, noS]
theorem sameS_refl (v : SlotV) : sameS v v = true := by simp [sameS, sameO]
theorem isNo_slot {v : SlotV} (h : isNo v = true) : slotB v = true := by
  obtain ⟨b, k, i, f⟩ := v
  cases b
  · simp [isNo, sameO] at h
    simp [slotB, h]
  · simp [isNo] at h
theorem zeroV : zeroS.v = noS := rfl

theorem okV_set (n t v o : Int) (b a : SlotV) (x : Int) (l : List LiveV) : ((inB n 1 1000000 && ((linkB n t v && (inB o 1 31 && (slotB b && slotB a))) && sameR ⟨n, t, v, 1, o, b, a, 0, []⟩ ⟨n, t, v, 1, o, b, a, x, l⟩)) = true) ↔ okR ⟨n, t, v, 1, o, b, a, x, l⟩ = true := by
  have hb : isNo b = true → slotB b = true := isNo_slot
  have ha : isNo a = true → slotB a = true := isNo_slot
  simp only [sameR, sameS_refl, sameLs_nil, okR, zeroB, linkB, Bool.and_eq_true, beq_self_eq_true, beq_iff_eq, decide_eq_true_eq, Bool.true_or, Bool.false_or]
  generalize isNo b = ib at *
  generalize isNo a = ia at *
  generalize slotB b = sb at *
  generalize slotB a = sa at *
  by_cases hl : l = []
  all_goals cases ib <;> cases ia <;> cases sb <;> cases sa <;> simp [inB, hl] at hb ha ⊢ <;> omega
theorem okR_set (r : RecA) (hk : r.kind = 1) : ((inB r.lsn 1 1000000 && ((linkB r.lsn r.tx r.prev && (inB r.oid 1 31 && (slotB r.bf.v && slotB r.af.v))) && sameR (RecA.v (⟨r.lsn, r.tx, r.prev, 1, r.oid, r.bf, r.af, 0, [], none, 0⟩)) r.v)) = true) ↔ okR r.v = true := by
  obtain ⟨n, t, v, k, o, b, a, x, l, aL, cL⟩ := r
  simp only at hk
  subst hk
  exact okV_set n t v o b.v a.v x l
theorem okV_commit (n t v o : Int) (b a : SlotV) (x : Int) (l : List LiveV) : ((inB n 1 1000000 && (linkB n t v && sameR ⟨n, t, v, 2, 0, noS, noS, 0, []⟩ ⟨n, t, v, 2, o, b, a, x, l⟩)) = true) ↔ okR ⟨n, t, v, 2, o, b, a, x, l⟩ = true := by
  have hb : isNo b = true → slotB b = true := isNo_slot
  have ha : isNo a = true → slotB a = true := isNo_slot
  simp only [sameR, isNo_same, sameLs_nil, okR, zeroB, linkB, Bool.and_eq_true, beq_self_eq_true, beq_iff_eq, decide_eq_true_eq, Bool.true_or, Bool.false_or]
  generalize isNo b = ib at *
  generalize isNo a = ia at *
  generalize slotB b = sb at *
  generalize slotB a = sa at *
  by_cases hl : l = []
  all_goals cases ib <;> cases ia <;> cases sb <;> cases sa <;> simp [inB, hl] at hb ha ⊢ <;> omega
theorem okR_commit (r : RecA) (hk : r.kind = 2) : ((inB r.lsn 1 1000000 && (linkB r.lsn r.tx r.prev && sameR (RecA.v (recA r.lsn r.tx r.prev 2)) r.v)) = true) ↔ okR r.v = true := by
  obtain ⟨n, t, v, k, o, b, a, x, l, aL, cL⟩ := r
  simp only at hk
  subst hk
  exact okV_commit n t v o b.v a.v x l
theorem okV_abort (n t v o : Int) (b a : SlotV) (x : Int) (l : List LiveV) : ((inB n 1 1000000 && (linkB n t v && sameR ⟨n, t, v, 3, 0, noS, noS, 0, []⟩ ⟨n, t, v, 3, o, b, a, x, l⟩)) = true) ↔ okR ⟨n, t, v, 3, o, b, a, x, l⟩ = true := by
  have hb : isNo b = true → slotB b = true := isNo_slot
  have ha : isNo a = true → slotB a = true := isNo_slot
  simp only [sameR, isNo_same, sameLs_nil, okR, zeroB, linkB, Bool.and_eq_true, beq_self_eq_true, beq_iff_eq, decide_eq_true_eq, Bool.true_or, Bool.false_or]
  generalize isNo b = ib at *
  generalize isNo a = ia at *
  generalize slotB b = sb at *
  generalize slotB a = sa at *
  by_cases hl : l = []
  all_goals cases ib <;> cases ia <;> cases sb <;> cases sa <;> simp [inB, hl] at hb ha ⊢ <;> omega
theorem okR_abort (r : RecA) (hk : r.kind = 3) : ((inB r.lsn 1 1000000 && (linkB r.lsn r.tx r.prev && sameR (RecA.v (recA r.lsn r.tx r.prev 3)) r.v)) = true) ↔ okR r.v = true := by
  obtain ⟨n, t, v, k, o, b, a, x, l, aL, cL⟩ := r
  simp only at hk
  subst hk
  exact okV_abort n t v o b.v a.v x l
theorem okV_back (n t v o : Int) (b a : SlotV) (x : Int) (l : List LiveV) : ((inB n 1 1000000 && ((linkB n t v && (inB o 1 31 && (slotB a && inB x 0 (n - 1)))) && sameR ⟨n, t, v, 4, o, noS, a, x, []⟩ ⟨n, t, v, 4, o, b, a, x, l⟩)) = true) ↔ okR ⟨n, t, v, 4, o, b, a, x, l⟩ = true := by
  have hb : isNo b = true → slotB b = true := isNo_slot
  have ha : isNo a = true → slotB a = true := isNo_slot
  simp only [sameR, isNo_same, sameS_refl, sameLs_nil, okR, zeroB, linkB, Bool.and_eq_true, beq_self_eq_true, beq_iff_eq, decide_eq_true_eq, Bool.true_or, Bool.false_or]
  generalize isNo b = ib at *
  generalize isNo a = ia at *
  generalize slotB b = sb at *
  generalize slotB a = sa at *
  by_cases hl : l = []
  all_goals cases ib <;> cases ia <;> cases sb <;> cases sa <;> simp [inB, hl] at hb ha ⊢ <;> omega
theorem okR_back (r : RecA) (hk : r.kind = 4) : ((inB r.lsn 1 1000000 && ((linkB r.lsn r.tx r.prev && (inB r.oid 1 31 && (slotB r.af.v && inB r.next 0 (r.lsn - 1)))) && sameR (RecA.v (⟨r.lsn, r.tx, r.prev, 4, r.oid, zeroS, r.af, r.next, [], none, 0⟩)) r.v)) = true) ↔ okR r.v = true := by
  obtain ⟨n, t, v, k, o, b, a, x, l, aL, cL⟩ := r
  simp only at hk
  subst hk
  exact okV_back n t v o b.v a.v x l
theorem okV_end (n t v o : Int) (b a : SlotV) (x : Int) (l : List LiveV) : ((inB n 1 1000000 && (linkB n t v && sameR ⟨n, t, v, 5, 0, noS, noS, 0, []⟩ ⟨n, t, v, 5, o, b, a, x, l⟩)) = true) ↔ okR ⟨n, t, v, 5, o, b, a, x, l⟩ = true := by
  have hb : isNo b = true → slotB b = true := isNo_slot
  have ha : isNo a = true → slotB a = true := isNo_slot
  simp only [sameR, isNo_same, sameLs_nil, okR, zeroB, linkB, Bool.and_eq_true, beq_self_eq_true, beq_iff_eq, decide_eq_true_eq, Bool.true_or, Bool.false_or]
  generalize isNo b = ib at *
  generalize isNo a = ia at *
  generalize slotB b = sb at *
  generalize slotB a = sa at *
  by_cases hl : l = []
  all_goals cases ib <;> cases ia <;> cases sb <;> cases sa <;> simp [inB, hl] at hb ha ⊢ <;> omega
theorem okR_end (r : RecA) (hk : r.kind = 5) : ((inB r.lsn 1 1000000 && (linkB r.lsn r.tx r.prev && sameR (RecA.v (recA r.lsn r.tx r.prev 5)) r.v)) = true) ↔ okR r.v = true := by
  obtain ⟨n, t, v, k, o, b, a, x, l, aL, cL⟩ := r
  simp only at hk
  subst hk
  exact okV_end n t v o b.v a.v x l
theorem okV_check (n t v o : Int) (b a : SlotV) (x : Int) (l : List LiveV) : ((inB n 1 1000000 && (livesB n l && sameR ⟨n, 0, 0, 6, 0, noS, noS, 0, l⟩ ⟨n, t, v, 6, o, b, a, x, l⟩)) = true) ↔ okR ⟨n, t, v, 6, o, b, a, x, l⟩ = true := by
  have hb : isNo b = true → slotB b = true := isNo_slot
  have ha : isNo a = true → slotB a = true := isNo_slot
  simp only [sameR, isNo_same, sameLs_refl, okR, zeroB, Bool.and_eq_true, beq_self_eq_true, beq_iff_eq, Bool.true_or, Bool.false_or]
  generalize isNo b = ib at *
  generalize isNo a = ia at *
  generalize slotB b = sb at *
  generalize slotB a = sa at *
  generalize livesB n l = L at *
  all_goals cases L <;> cases ib <;> cases ia <;> cases sb <;> cases sa <;> simp [inB] at hb ha ⊢ <;> omega
theorem okR_check (r : RecA) (hk : r.kind = 6) : ((inB r.lsn 1 1000000 && (livesB r.lsn r.txs && sameR (RecA.v (⟨r.lsn, 0, 0, 6, 0, zeroS, zeroS, 0, r.txs, r.aL, r.cL⟩)) r.v)) = true) ↔ okR r.v = true := by
  obtain ⟨n, t, v, k, o, b, a, x, l, aL, cL⟩ := r
  simp only at hk
  subst hk
  exact okV_check n t v o b.v a.v x l
/-- The landed code's test is the model's. -/
theorem okR_eq (r : RecA) : (inB r.lsn 1 1000000 && (deedB r.lsn r.v && sameR (cutA r.lsn r).v r.v)) = okR r.v := by
  rw [Bool.eq_iff_iff]
  cases k1 : (r.kind == 1) with
  | true =>
    have e2 : deedB r.lsn r.v = (linkB r.lsn r.tx r.prev && (inB r.oid 1 31 && (slotB r.bf.v && slotB r.af.v))) := by simp [deedB, RecA.v, k1]
    have e3 : cutA r.lsn r = ⟨r.lsn, r.tx, r.prev, 1, r.oid, r.bf, r.af, 0, [], none, 0⟩ := by simp [cutA, k1]
    rw [e2, e3]
    have hk : r.kind = 1 := by simpa using k1
    exact okR_set _ (by simpa using k1)
  | false =>
    cases k2 : (r.kind == 2) with
    | true =>
      have e2 : deedB r.lsn r.v = linkB r.lsn r.tx r.prev := by simp [deedB, RecA.v, k1, k2]
      have e3 : cutA r.lsn r = recA r.lsn r.tx r.prev 2 := by simp [cutA, k1, k2]
      rw [e2, e3]
      have hk : r.kind = 2 := by simpa using k2
      exact okR_commit _ (by simpa using k2)
    | false =>
      cases k3 : (r.kind == 3) with
      | true =>
        have e2 : deedB r.lsn r.v = linkB r.lsn r.tx r.prev := by simp [deedB, RecA.v, k1, k2, k3]
        have e3 : cutA r.lsn r = recA r.lsn r.tx r.prev 3 := by simp [cutA, k1, k2, k3]
        rw [e2, e3]
        have hk : r.kind = 3 := by simpa using k3
        exact okR_abort _ (by simpa using k3)
      | false =>
        cases k4 : (r.kind == 4) with
        | true =>
          have e2 : deedB r.lsn r.v = (linkB r.lsn r.tx r.prev && (inB r.oid 1 31 && (slotB r.af.v && inB r.next 0 (r.lsn - 1)))) := by simp [deedB, RecA.v, k1, k2, k3, k4]
          have e3 : cutA r.lsn r = ⟨r.lsn, r.tx, r.prev, 4, r.oid, zeroS, r.af, r.next, [], none, 0⟩ := by simp [cutA, k1, k2, k3, k4]
          rw [e2, e3]
          have hk : r.kind = 4 := by simpa using k4
          exact okR_back _ (by simpa using k4)
        | false =>
          cases k5 : (r.kind == 5) with
          | true =>
            have e2 : deedB r.lsn r.v = linkB r.lsn r.tx r.prev := by simp [deedB, RecA.v, k1, k2, k3, k4, k5]
            have e3 : cutA r.lsn r = recA r.lsn r.tx r.prev 5 := by simp [cutA, k1, k2, k3, k4, k5]
            rw [e2, e3]
            have hk : r.kind = 5 := by simpa using k5
            exact okR_end _ (by simpa using k5)
          | false =>
            cases k6 : (r.kind == 6) with
            | true =>
              have e2 : deedB r.lsn r.v = livesB r.lsn r.txs := by simp [deedB, RecA.v, k1, k2, k3, k4, k5, k6]
              have e3 : cutA r.lsn r = ⟨r.lsn, 0, 0, 6, 0, zeroS, zeroS, 0, r.txs, r.aL, r.cL⟩ := by simp [cutA, k1, k2, k3, k4, k5, k6]
              rw [e2, e3]
              have hk : r.kind = 6 := by simpa using k6
              exact okR_check _ (by simpa using k6)
            | false =>
              have e2 : deedB r.lsn r.v = false := by simp [deedB, RecA.v, k1, k2, k3, k4, k5, k6]
              have e3 : okR r.v = false := by simp [okR, RecA.v, k1, k2, k3, k4, k5, k6]
              rw [e2, e3]
              simp
set_option maxHeartbeats 4000000 in
set_option maxRecDepth 100000 in
theorem implRecOk_any (r : RecA) (w : World) (hg : ErrT w) (hr : r.reads w) (hl : r.short 1099511627776) :
    Calls Tryz.prog 28 #[.agg r.cells.toArray] w fun e w' => e = .returned (.bool (okR r.v)) ∧ Below w.heap.size w w' := by
  obtain ⟨W, hW, b0, hbW, hsW⟩ := boxes1 w r.cells 30
  have HZ : Hid (okR r.v = _) := (okR_eq r).symm
  have HX : Hid (∀ u, Below W.heap.size W u → Box u w.heap.size r.cells 30) := fun u hu => b0.below hu b0.lt
  have C1 := deedOf_any r W
  have HD : Hid (∀ u, Below w.heap.size w u → Calls _ _ _ _ _) := fun u hu => deedOk_any r.lsn r u (hg.keep hu) (hr.below hu) hl
  have HM : Hid (∀ u, Below w.heap.size w u → Calls _ _ _ _ _) := fun u hu => sameRec_any (cutA r.lsn r) r u (cutA_reads r.lsn (hr.below hu)) (hr.below hu) (cutA_short r.lsn hl) hl
  generalize okR r.v = R at *
  generalize deedB r.lsn r.v = G at *
  generalize sameR (cutA r.lsn r).v r.v = M at *
  have HN : Hid (∀ u, Calls _ _ _ _ _) := fun u => recOf_any r.lsn r u
  generalize deedV r = D at *
  generalize cutA r.lsn r = cc at *
  simp only [RecA.cells] at *
  have HC : Hid (∀ w', Box w' w.heap.size [.int .i64 r.lsn, .int .i64 r.tx, .int .i64 r.prev, .int .i64 r.kind, .int .i64 r.oid, .bool r.bf.v.has, .int .i64 r.bf.v.o.kind, .slice r.bf.aI r.bf.v.o.ints.length r.bf.cI, .slice r.bf.aR r.bf.v.o.refs.length r.bf.cR, .bool r.af.v.has, .int .i64 r.af.v.o.kind, .slice r.af.aI r.af.v.o.ints.length r.af.cI, .slice r.af.aR r.af.v.o.refs.length r.af.cR, .int .i64 r.next, .slice r.aL r.txs.length r.cL] 30 → w'.cell? ⟨w.heap.size, 0, none⟩ = some (.int .i64 r.lsn) ∧ w'.cell? ⟨w.heap.size, 1, none⟩ = some (.int .i64 r.tx) ∧ w'.cell? ⟨w.heap.size, 2, none⟩ = some (.int .i64 r.prev) ∧ w'.cell? ⟨w.heap.size, 3, none⟩ = some (.int .i64 r.kind) ∧ w'.cell? ⟨w.heap.size, 4, none⟩ = some (.int .i64 r.oid) ∧ w'.cell? ⟨w.heap.size, 5, none⟩ = some (.bool r.bf.v.has) ∧ w'.cell? ⟨w.heap.size, 6, none⟩ = some (.int .i64 r.bf.v.o.kind) ∧ w'.cell? ⟨w.heap.size, 7, none⟩ = some (.slice r.bf.aI r.bf.v.o.ints.length r.bf.cI) ∧ w'.cell? ⟨w.heap.size, 8, none⟩ = some (.slice r.bf.aR r.bf.v.o.refs.length r.bf.cR) ∧ w'.cell? ⟨w.heap.size, 9, none⟩ = some (.bool r.af.v.has) ∧ w'.cell? ⟨w.heap.size, 10, none⟩ = some (.int .i64 r.af.v.o.kind) ∧ w'.cell? ⟨w.heap.size, 11, none⟩ = some (.slice r.af.aI r.af.v.o.ints.length r.af.cI) ∧ w'.cell? ⟨w.heap.size, 12, none⟩ = some (.slice r.af.aR r.af.v.o.refs.length r.af.cR) ∧ w'.cell? ⟨w.heap.size, 13, none⟩ = some (.int .i64 r.next) ∧ w'.cell? ⟨w.heap.size, 14, none⟩ = some (.slice r.aL r.txs.length r.cL)) := fun w' b => fifteen b
  obtain ⟨x0, x1, x2, x3, x4, x5, x6, x7, x8, x9, x10, x11, x12, x13, x14⟩ := HC.out W b0
  clear hsW b0 hg hr hl
  go_enter Tryz.func28, Tryz.ntmps28
  go_wp2_with fail
  rw [hW.out]
  clear hW
  refine C1.mono ?_
  clear C1 x0 x1 x2 x3 x4 x5 x6 x7 x8 x9 x10 x11 x12 x13 x14
  rintro e w1 ⟨rfl, hb1⟩
  have B1 : Below w.heap.size w w1 := hbW.trans (hb1.mono hbW.size)
  have hh := HC.out w1 (HX.out _ hb1)
  by_cases h1 : 1 ≤ r.lsn
  case neg =>
    have HR : Hid (R = false) := by rw [Hid, HZ.out]; simp [inB]; omega
    have hd : decide (1 ≤ r.lsn) = false := by simp; omega
    clear HZ HD HM HN h1
    go_wp2_with fail
    obtain ⟨x0, x1, x2, x3, x4, x5, x6, x7, x8, x9, x10, x11, x12, x13, x14⟩ := hh
    go_quiet (fail)
    go_wp2
    go_ret
    exact ⟨ret_bool HR.out.symm, below_drewN B1 _⟩
  case pos =>
  by_cases h2 : r.lsn ≤ 1000000
  case neg =>
    have HR : Hid (R = false) := by rw [Hid, HZ.out]; simp [inB]; omega
    have hd : decide (1 ≤ r.lsn) = true := by simp; omega
    have hd2 : decide (r.lsn ≤ 1000000) = false := by simp; omega
    clear HZ HD HM HN h1 h2
    go_wp2_with fail
    obtain ⟨x0, x1, x2, x3, x4, x5, x6, x7, x8, x9, x10, x11, x12, x13, x14⟩ := hh
    go_quiet (fail)
    go_wp2
    go_ret
    exact ⟨ret_bool HR.out.symm, below_drewN B1 _⟩
  case pos =>
  have h12 : inB r.lsn 1 1000000 = true := by simp [inB]; omega
  cases G with
  | false =>
    have HR : Hid (R = false) := by rw [Hid, HZ.out]; simp
    clear HZ HM HN h12
    go_wp2_with fail
    refine wp_region_held_drew (S := fun w' => w'.cell? ⟨w.heap.size, 0, none⟩ = some (.int .i64 r.lsn) ∧ w'.cell? ⟨w.heap.size, 1, none⟩ = some (.int .i64 r.tx) ∧ w'.cell? ⟨w.heap.size, 2, none⟩ = some (.int .i64 r.prev) ∧ w'.cell? ⟨w.heap.size, 3, none⟩ = some (.int .i64 r.kind) ∧ w'.cell? ⟨w.heap.size, 4, none⟩ = some (.int .i64 r.oid) ∧ w'.cell? ⟨w.heap.size, 5, none⟩ = some (.bool r.bf.v.has) ∧ w'.cell? ⟨w.heap.size, 6, none⟩ = some (.int .i64 r.bf.v.o.kind) ∧ w'.cell? ⟨w.heap.size, 7, none⟩ = some (.slice r.bf.aI r.bf.v.o.ints.length r.bf.cI) ∧ w'.cell? ⟨w.heap.size, 8, none⟩ = some (.slice r.bf.aR r.bf.v.o.refs.length r.bf.cR) ∧ w'.cell? ⟨w.heap.size, 9, none⟩ = some (.bool r.af.v.has) ∧ w'.cell? ⟨w.heap.size, 10, none⟩ = some (.int .i64 r.af.v.o.kind) ∧ w'.cell? ⟨w.heap.size, 11, none⟩ = some (.slice r.af.aI r.af.v.o.ints.length r.af.cI) ∧ w'.cell? ⟨w.heap.size, 12, none⟩ = some (.slice r.af.aR r.af.v.o.refs.length r.af.cR) ∧ w'.cell? ⟨w.heap.size, 13, none⟩ = some (.int .i64 r.next) ∧ w'.cell? ⟨w.heap.size, 14, none⟩ = some (.slice r.aL r.txs.length r.cL)) (by kernel_rfl) (HC.out _ (HX.out _ hb1.drew)) (fun hHeld => ?_)
    refine wpAnyH_take (i := 0) (v := .pointer (some ⟨w.heap.size, 0, none⟩)) rfl (by kernel_rfl) (by kernel_rfl) (by kernel_rfl) (fun _ _ _ h => h) (Or.inl ⟨by rfl, ?_⟩) hHeld ?_
    · intro w' hSw
      go_simp <;> rfl
    try simp only [Act.put, List.getElem_toArray, List.getElem_cons_zero, List.setIfInBounds_toArray, List.set_cons_zero, List.set_cons_succ]
    refine wpAnyH_take (i := 1) (v := .int .i64 r.lsn) rfl (by kernel_rfl) (by kernel_rfl) (by kernel_rfl) (fun _ _ _ h => h) (Or.inl ⟨by rfl, ?_⟩) hHeld ?_
    · intro w' hSw
      go_simp <;> rfl
    try simp only [Act.put, List.getElem_toArray, List.getElem_cons_zero, List.getElem_cons_succ, List.setIfInBounds_toArray, List.set_cons_zero, List.set_cons_succ]
    refine wpAnyH_take (i := 2) (v := .bool true) rfl (by kernel_rfl) (by kernel_rfl) (by kernel_rfl) (fun _ _ _ h => h) (Or.inl ⟨by rfl, ?_⟩) hHeld ?_
    · intro w' hSw
      go_simp <;> rfl
    try simp only [Act.put, List.getElem_toArray, List.getElem_cons_zero, List.getElem_cons_succ, List.setIfInBounds_toArray, List.set_cons_zero, List.set_cons_succ]
    refine wpAnyH_take (i := 3) (v := .bool true) rfl (by kernel_rfl) (by kernel_rfl) (by kernel_rfl) (fun _ _ _ h => h) (Or.inl ⟨by rfl, ?_⟩) hHeld ?_
    · intro w' hSw
      go_simp <;> rfl
    try simp only [Act.put, List.getElem_toArray, List.getElem_cons_zero, List.getElem_cons_succ, List.setIfInBounds_toArray, List.set_cons_zero, List.set_cons_succ]
    refine wpAnyH_take (i := 4) (v := .pointer (some ⟨w.heap.size, 0, none⟩)) rfl (by kernel_rfl) (by kernel_rfl) (by kernel_rfl) (fun _ _ _ h => h) (Or.inl ⟨by rfl, ?_⟩) hHeld ?_
    · intro w' hSw
      go_simp <;> rfl
    try simp only [Act.put, List.getElem_toArray, List.getElem_cons_zero, List.getElem_cons_succ, List.setIfInBounds_toArray, List.set_cons_zero, List.set_cons_succ]
    refine wpAnyH_take (i := 5) (v := .int .i64 r.lsn) rfl (by kernel_rfl) (by kernel_rfl) (by kernel_rfl) (fun _ _ _ h => h) (Or.inl ⟨by rfl, ?_⟩) hHeld ?_
    · intro w' hSw
      go_simp <;> rfl
    try simp only [Act.put, List.getElem_toArray, List.getElem_cons_zero, List.getElem_cons_succ, List.setIfInBounds_toArray, List.set_cons_zero, List.set_cons_succ]
    refine wpAnyH_take (i := 6) (v := .bool true) rfl (by kernel_rfl) (by kernel_rfl) (by kernel_rfl) (fun _ _ _ h => h) (Or.inl ⟨by rfl, ?_⟩) hHeld ?_
    · intro w' hSw
      go_simp <;> rfl
    try simp only [Act.put, List.getElem_toArray, List.getElem_cons_zero, List.getElem_cons_succ, List.setIfInBounds_toArray, List.set_cons_zero, List.set_cons_succ]
    refine wpAnyH_take (i := 7) (v := .bool true) rfl (by kernel_rfl) (by kernel_rfl) (by kernel_rfl) (fun _ _ _ h => h) (Or.inl ⟨by rfl, ?_⟩) hHeld ?_
    · intro w' hSw
      go_simp <;> rfl
    try simp only [Act.put, List.getElem_toArray, List.getElem_cons_zero, List.getElem_cons_succ, List.setIfInBounds_toArray, List.set_cons_zero, List.set_cons_succ]
    refine wpAnyH_take (i := 8) (v := .bool true) rfl (by kernel_rfl) (by kernel_rfl) (by kernel_rfl) (fun _ _ _ h => h) (Or.inl ⟨by rfl, ?_⟩) hHeld ?_
    · intro w' hSw
      go_simp <;> rfl
    try simp only [Act.put, List.getElem_toArray, List.getElem_cons_zero, List.getElem_cons_succ, List.setIfInBounds_toArray, List.set_cons_zero, List.set_cons_succ]
    refine wpAnyH_take (i := 9) (v := .pointer (some ⟨w.heap.size, 0, none⟩)) rfl (by kernel_rfl) (by kernel_rfl) (by kernel_rfl) (fun _ _ _ h => h) (Or.inl ⟨by rfl, ?_⟩) hHeld ?_
    · intro w' hSw
      go_simp <;> rfl
    try simp only [Act.put, List.getElem_toArray, List.getElem_cons_zero, List.getElem_cons_succ, List.setIfInBounds_toArray, List.set_cons_zero, List.set_cons_succ]
    refine wpAnyH_take (i := 10) (v := .int .i64 r.lsn) rfl (by kernel_rfl) (by kernel_rfl) (by kernel_rfl) (fun _ _ _ h => h) (Or.inl ⟨by rfl, ?_⟩) hHeld ?_
    · intro w' hSw
      go_simp <;> rfl
    try simp only [Act.put, List.getElem_toArray, List.getElem_cons_zero, List.getElem_cons_succ, List.setIfInBounds_toArray, List.set_cons_zero, List.set_cons_succ]
    refine wpAnyH_take (i := 11) (v := D) rfl (by kernel_rfl) (by kernel_rfl) (by kernel_rfl) (fun _ _ _ h => h) (Or.inl ⟨by rfl, ?_⟩) hHeld ?_
    · intro w' hSw
      go_simp <;> rfl
    try simp only [Act.put, List.getElem_toArray, List.getElem_cons_zero, List.getElem_cons_succ, List.setIfInBounds_toArray, List.set_cons_zero, List.set_cons_succ]
    refine wpAnyH_ready (rs := [12]) (by kernel_rfl) (by simp) ?_
    refine AllReadyH.cons rfl (fun K hK => ?_) AllReadyH.nil
    go_simp
    refine (HD.out _ B1.drew).mono ?_
    rintro e u2 ⟨rfl, hbu2⟩
    have hBu2 : Below W.heap.size W u2 := (hb1.drew).trans (hbu2.mono (hb1.drew).size)
    refine hK.out _ _ (HC.out _ (HX.out _ hBu2)) (fun hHeld => ?_)
    clear hK K
    try simp only [Act.put, List.getElem_toArray, List.getElem_cons_zero, List.getElem_cons_succ, List.setIfInBounds_toArray, List.set_cons_zero, List.set_cons_succ]
    refine wpAnyH_take (i := 13) (v := .bool false) rfl (by kernel_rfl) (by kernel_rfl) (by kernel_rfl) (fun _ _ _ h => h) (Or.inl ⟨by rfl, ?_⟩) hHeld ?_
    · intro w' hSw
      go_simp <;> rfl
    try simp only [Act.put, List.getElem_toArray, List.getElem_cons_zero, List.getElem_cons_succ, List.setIfInBounds_toArray, List.set_cons_zero, List.set_cons_succ]
    refine wpAnyH_take (i := 14) (v := .bool false) rfl (by kernel_rfl) (by kernel_rfl) (by kernel_rfl) (fun _ _ _ h => h) (Or.inl ⟨by rfl, ?_⟩) hHeld ?_
    · intro w' hSw
      go_simp <;> rfl
    try simp only [Act.put, List.getElem_toArray, List.getElem_cons_zero, List.getElem_cons_succ, List.setIfInBounds_toArray, List.set_cons_zero, List.set_cons_succ]
    refine wpAnyH_take (i := 15) (v := undef) rfl (by kernel_rfl) (by kernel_rfl) (by kernel_rfl) (fun _ _ _ h => h) (Or.inr ⟨by rfl, rfl⟩) hHeld ?_
    try simp only [Act.put, List.getElem_toArray, List.getElem_cons_zero, List.getElem_cons_succ, List.setIfInBounds_toArray, List.set_cons_zero, List.set_cons_succ]
    refine wpAnyH_take (i := 16) (v := undef) rfl (by kernel_rfl) (by kernel_rfl) (by kernel_rfl) (fun _ _ _ h => h) (Or.inr ⟨by rfl, rfl⟩) hHeld ?_
    try simp only [Act.put, List.getElem_toArray, List.getElem_cons_zero, List.getElem_cons_succ, List.setIfInBounds_toArray, List.set_cons_zero, List.set_cons_succ]
    refine wpAnyH_take (i := 17) (v := undef) rfl (by kernel_rfl) (by kernel_rfl) (by kernel_rfl) (fun _ _ _ h => h) (Or.inr ⟨by rfl, rfl⟩) hHeld ?_
    try simp only [Act.put, List.getElem_toArray, List.getElem_cons_zero, List.getElem_cons_succ, List.setIfInBounds_toArray, List.set_cons_zero, List.set_cons_succ]
    refine wpAnyH_take (i := 18) (v := undef) rfl (by kernel_rfl) (by kernel_rfl) (by kernel_rfl) (fun _ _ _ h => h) (Or.inr ⟨by rfl, rfl⟩) hHeld ?_
    try simp only [Act.put, List.getElem_toArray, List.getElem_cons_zero, List.getElem_cons_succ, List.setIfInBounds_toArray, List.set_cons_zero, List.set_cons_succ]
    refine wpAnyH_take (i := 19) (v := undef) rfl (by kernel_rfl) (by kernel_rfl) (by kernel_rfl) (fun _ _ _ h => h) (Or.inr ⟨by rfl, rfl⟩) hHeld ?_
    try simp only [Act.put, List.getElem_toArray, List.getElem_cons_zero, List.getElem_cons_succ, List.setIfInBounds_toArray, List.set_cons_zero, List.set_cons_succ]
    refine wpAnyH_take (i := 20) (v := undef) rfl (by kernel_rfl) (by kernel_rfl) (by kernel_rfl) (fun _ _ _ h => h) (Or.inr ⟨by rfl, rfl⟩) hHeld ?_
    try simp only [Act.put, List.getElem_toArray, List.getElem_cons_zero, List.getElem_cons_succ, List.setIfInBounds_toArray, List.set_cons_zero, List.set_cons_succ]
    refine wpAnyH_take (i := 21) (v := .bool false) rfl (by kernel_rfl) (by kernel_rfl) (by kernel_rfl) (fun _ _ _ h => h) (Or.inl ⟨by rfl, ?_⟩) hHeld ?_
    · intro w' hSw
      go_simp <;> rfl
    try simp only [Act.put, List.getElem_toArray, List.getElem_cons_zero, List.getElem_cons_succ, List.setIfInBounds_toArray, List.set_cons_zero, List.set_cons_succ]
    refine wpAnyH_take (i := 22) (v := .bool false) rfl (by kernel_rfl) (by kernel_rfl) (by kernel_rfl) (fun _ _ _ h => h) (Or.inl ⟨by rfl, ?_⟩) hHeld ?_
    · intro w' hSw
      go_simp <;> rfl
    try simp only [Act.put, List.getElem_toArray, List.getElem_cons_zero, List.getElem_cons_succ, List.setIfInBounds_toArray, List.set_cons_zero, List.set_cons_succ]
    refine wpAnyH_done (by kernel_rfl) ?_ _
    go_wp2
    go_ret
    exact ⟨ret_bool HR.out.symm, hbW.trans (hBu2.mono hbW.size)⟩
  | true =>
    have HR : Hid (R = M) := by rw [Hid, HZ.out, h12]; simp
    clear HZ h12
    go_wp2_with fail
    refine wp_region_held_drew (S := fun w' => w'.cell? ⟨w.heap.size, 0, none⟩ = some (.int .i64 r.lsn) ∧ w'.cell? ⟨w.heap.size, 1, none⟩ = some (.int .i64 r.tx) ∧ w'.cell? ⟨w.heap.size, 2, none⟩ = some (.int .i64 r.prev) ∧ w'.cell? ⟨w.heap.size, 3, none⟩ = some (.int .i64 r.kind) ∧ w'.cell? ⟨w.heap.size, 4, none⟩ = some (.int .i64 r.oid) ∧ w'.cell? ⟨w.heap.size, 5, none⟩ = some (.bool r.bf.v.has) ∧ w'.cell? ⟨w.heap.size, 6, none⟩ = some (.int .i64 r.bf.v.o.kind) ∧ w'.cell? ⟨w.heap.size, 7, none⟩ = some (.slice r.bf.aI r.bf.v.o.ints.length r.bf.cI) ∧ w'.cell? ⟨w.heap.size, 8, none⟩ = some (.slice r.bf.aR r.bf.v.o.refs.length r.bf.cR) ∧ w'.cell? ⟨w.heap.size, 9, none⟩ = some (.bool r.af.v.has) ∧ w'.cell? ⟨w.heap.size, 10, none⟩ = some (.int .i64 r.af.v.o.kind) ∧ w'.cell? ⟨w.heap.size, 11, none⟩ = some (.slice r.af.aI r.af.v.o.ints.length r.af.cI) ∧ w'.cell? ⟨w.heap.size, 12, none⟩ = some (.slice r.af.aR r.af.v.o.refs.length r.af.cR) ∧ w'.cell? ⟨w.heap.size, 13, none⟩ = some (.int .i64 r.next) ∧ w'.cell? ⟨w.heap.size, 14, none⟩ = some (.slice r.aL r.txs.length r.cL)) (by kernel_rfl) (HC.out _ (HX.out _ hb1.drew)) (fun hHeld => ?_)
    refine wpAnyH_take (i := 0) (v := .pointer (some ⟨w.heap.size, 0, none⟩)) rfl (by kernel_rfl) (by kernel_rfl) (by kernel_rfl) (fun _ _ _ h => h) (Or.inl ⟨by rfl, ?_⟩) hHeld ?_
    · intro w' hSw
      go_simp <;> rfl
    try simp only [Act.put, List.getElem_toArray, List.getElem_cons_zero, List.setIfInBounds_toArray, List.set_cons_zero, List.set_cons_succ]
    refine wpAnyH_take (i := 1) (v := .int .i64 r.lsn) rfl (by kernel_rfl) (by kernel_rfl) (by kernel_rfl) (fun _ _ _ h => h) (Or.inl ⟨by rfl, ?_⟩) hHeld ?_
    · intro w' hSw
      go_simp <;> rfl
    try simp only [Act.put, List.getElem_toArray, List.getElem_cons_zero, List.getElem_cons_succ, List.setIfInBounds_toArray, List.set_cons_zero, List.set_cons_succ]
    refine wpAnyH_take (i := 2) (v := .bool true) rfl (by kernel_rfl) (by kernel_rfl) (by kernel_rfl) (fun _ _ _ h => h) (Or.inl ⟨by rfl, ?_⟩) hHeld ?_
    · intro w' hSw
      go_simp <;> rfl
    try simp only [Act.put, List.getElem_toArray, List.getElem_cons_zero, List.getElem_cons_succ, List.setIfInBounds_toArray, List.set_cons_zero, List.set_cons_succ]
    refine wpAnyH_take (i := 3) (v := .bool true) rfl (by kernel_rfl) (by kernel_rfl) (by kernel_rfl) (fun _ _ _ h => h) (Or.inl ⟨by rfl, ?_⟩) hHeld ?_
    · intro w' hSw
      go_simp <;> rfl
    try simp only [Act.put, List.getElem_toArray, List.getElem_cons_zero, List.getElem_cons_succ, List.setIfInBounds_toArray, List.set_cons_zero, List.set_cons_succ]
    refine wpAnyH_take (i := 4) (v := .pointer (some ⟨w.heap.size, 0, none⟩)) rfl (by kernel_rfl) (by kernel_rfl) (by kernel_rfl) (fun _ _ _ h => h) (Or.inl ⟨by rfl, ?_⟩) hHeld ?_
    · intro w' hSw
      go_simp <;> rfl
    try simp only [Act.put, List.getElem_toArray, List.getElem_cons_zero, List.getElem_cons_succ, List.setIfInBounds_toArray, List.set_cons_zero, List.set_cons_succ]
    refine wpAnyH_take (i := 5) (v := .int .i64 r.lsn) rfl (by kernel_rfl) (by kernel_rfl) (by kernel_rfl) (fun _ _ _ h => h) (Or.inl ⟨by rfl, ?_⟩) hHeld ?_
    · intro w' hSw
      go_simp <;> rfl
    try simp only [Act.put, List.getElem_toArray, List.getElem_cons_zero, List.getElem_cons_succ, List.setIfInBounds_toArray, List.set_cons_zero, List.set_cons_succ]
    refine wpAnyH_take (i := 6) (v := .bool true) rfl (by kernel_rfl) (by kernel_rfl) (by kernel_rfl) (fun _ _ _ h => h) (Or.inl ⟨by rfl, ?_⟩) hHeld ?_
    · intro w' hSw
      go_simp <;> rfl
    try simp only [Act.put, List.getElem_toArray, List.getElem_cons_zero, List.getElem_cons_succ, List.setIfInBounds_toArray, List.set_cons_zero, List.set_cons_succ]
    refine wpAnyH_take (i := 7) (v := .bool true) rfl (by kernel_rfl) (by kernel_rfl) (by kernel_rfl) (fun _ _ _ h => h) (Or.inl ⟨by rfl, ?_⟩) hHeld ?_
    · intro w' hSw
      go_simp <;> rfl
    try simp only [Act.put, List.getElem_toArray, List.getElem_cons_zero, List.getElem_cons_succ, List.setIfInBounds_toArray, List.set_cons_zero, List.set_cons_succ]
    refine wpAnyH_take (i := 8) (v := .bool true) rfl (by kernel_rfl) (by kernel_rfl) (by kernel_rfl) (fun _ _ _ h => h) (Or.inl ⟨by rfl, ?_⟩) hHeld ?_
    · intro w' hSw
      go_simp <;> rfl
    try simp only [Act.put, List.getElem_toArray, List.getElem_cons_zero, List.getElem_cons_succ, List.setIfInBounds_toArray, List.set_cons_zero, List.set_cons_succ]
    refine wpAnyH_take (i := 9) (v := .pointer (some ⟨w.heap.size, 0, none⟩)) rfl (by kernel_rfl) (by kernel_rfl) (by kernel_rfl) (fun _ _ _ h => h) (Or.inl ⟨by rfl, ?_⟩) hHeld ?_
    · intro w' hSw
      go_simp <;> rfl
    try simp only [Act.put, List.getElem_toArray, List.getElem_cons_zero, List.getElem_cons_succ, List.setIfInBounds_toArray, List.set_cons_zero, List.set_cons_succ]
    refine wpAnyH_take (i := 10) (v := .int .i64 r.lsn) rfl (by kernel_rfl) (by kernel_rfl) (by kernel_rfl) (fun _ _ _ h => h) (Or.inl ⟨by rfl, ?_⟩) hHeld ?_
    · intro w' hSw
      go_simp <;> rfl
    try simp only [Act.put, List.getElem_toArray, List.getElem_cons_zero, List.getElem_cons_succ, List.setIfInBounds_toArray, List.set_cons_zero, List.set_cons_succ]
    refine wpAnyH_take (i := 11) (v := D) rfl (by kernel_rfl) (by kernel_rfl) (by kernel_rfl) (fun _ _ _ h => h) (Or.inl ⟨by rfl, ?_⟩) hHeld ?_
    · intro w' hSw
      go_simp <;> rfl
    try simp only [Act.put, List.getElem_toArray, List.getElem_cons_zero, List.getElem_cons_succ, List.setIfInBounds_toArray, List.set_cons_zero, List.set_cons_succ]
    refine wpAnyH_ready (rs := [12]) (by kernel_rfl) (by simp) ?_
    refine AllReadyH.cons rfl (fun K hK => ?_) AllReadyH.nil
    go_simp
    refine (HD.out _ B1.drew).mono ?_
    rintro e u2 ⟨rfl, hbu2⟩
    have hBu2 : Below W.heap.size W u2 := (hb1.drew).trans (hbu2.mono (hb1.drew).size)
    refine hK.out _ _ (HC.out _ (HX.out _ hBu2)) (fun hHeld => ?_)
    clear hK K
    try simp only [Act.put, List.getElem_toArray, List.getElem_cons_zero, List.getElem_cons_succ, List.setIfInBounds_toArray, List.set_cons_zero, List.set_cons_succ]
    refine wpAnyH_take (i := 13) (v := .bool true) rfl (by kernel_rfl) (by kernel_rfl) (by kernel_rfl) (fun _ _ _ h => h) (Or.inl ⟨by rfl, ?_⟩) hHeld ?_
    · intro w' hSw
      go_simp <;> rfl
    try simp only [Act.put, List.getElem_toArray, List.getElem_cons_zero, List.getElem_cons_succ, List.setIfInBounds_toArray, List.set_cons_zero, List.set_cons_succ]
    refine wpAnyH_take (i := 14) (v := .bool true) rfl (by kernel_rfl) (by kernel_rfl) (by kernel_rfl) (fun _ _ _ h => h) (Or.inl ⟨by rfl, ?_⟩) hHeld ?_
    · intro w' hSw
      go_simp <;> rfl
    try simp only [Act.put, List.getElem_toArray, List.getElem_cons_zero, List.getElem_cons_succ, List.setIfInBounds_toArray, List.set_cons_zero, List.set_cons_succ]
    refine wpAnyH_take (i := 15) (v := .pointer (some ⟨w.heap.size, 0, none⟩)) rfl (by kernel_rfl) (by kernel_rfl) (by kernel_rfl) (fun _ _ _ h => h) (Or.inl ⟨by rfl, ?_⟩) hHeld ?_
    · intro w' hSw
      go_simp <;> rfl
    try simp only [Act.put, List.getElem_toArray, List.getElem_cons_zero, List.getElem_cons_succ, List.setIfInBounds_toArray, List.set_cons_zero, List.set_cons_succ]
    refine wpAnyH_take (i := 16) (v := .int .i64 r.lsn) rfl (by kernel_rfl) (by kernel_rfl) (by kernel_rfl) (fun _ _ _ h => h) (Or.inl ⟨by rfl, ?_⟩) hHeld ?_
    · intro w' hSw
      go_simp <;> rfl
    try simp only [Act.put, List.getElem_toArray, List.getElem_cons_zero, List.getElem_cons_succ, List.setIfInBounds_toArray, List.set_cons_zero, List.set_cons_succ]
    refine wpAnyH_take (i := 17) (v := D) rfl (by kernel_rfl) (by kernel_rfl) (by kernel_rfl) (fun _ _ _ h => h) (Or.inl ⟨by rfl, ?_⟩) hHeld ?_
    · intro w' hSw
      go_simp <;> rfl
    try simp only [Act.put, List.getElem_toArray, List.getElem_cons_zero, List.getElem_cons_succ, List.setIfInBounds_toArray, List.set_cons_zero, List.set_cons_succ]
    refine wpAnyH_take (i := 19) (v := .agg #[.int .i64 r.lsn, .int .i64 r.tx, .int .i64 r.prev, .int .i64 r.kind, .int .i64 r.oid, .bool r.bf.v.has, .int .i64 r.bf.v.o.kind, .slice r.bf.aI r.bf.v.o.ints.length r.bf.cI, .slice r.bf.aR r.bf.v.o.refs.length r.bf.cR, .bool r.af.v.has, .int .i64 r.af.v.o.kind, .slice r.af.aI r.af.v.o.ints.length r.af.cI, .slice r.af.aR r.af.v.o.refs.length r.af.cR, .int .i64 r.next, .slice r.aL r.txs.length r.cL]) rfl (by kernel_rfl) (by kernel_rfl) (by kernel_rfl) (fun _ _ _ h => h) (Or.inl ⟨by rfl, ?_⟩) hHeld ?_
    · intro w' hSw
      go_simp <;> rfl
    try simp only [Act.put, List.getElem_toArray, List.getElem_cons_zero, List.getElem_cons_succ, List.setIfInBounds_toArray, List.set_cons_zero, List.set_cons_succ]
    refine wpAnyH_ready (rs := [18]) (by kernel_rfl) (by simp) ?_
    refine AllReadyH.cons rfl (fun K hK => ?_) AllReadyH.nil
    go_simp
    refine (HN.out _).mono ?_
    rintro e u3 ⟨rfl, hbu3⟩
    have hBu3 : Below W.heap.size W u3 := (hBu2).trans (hbu3.mono (hBu2).size)
    refine hK.out _ _ (HC.out _ (HX.out _ hBu3)) (fun hHeld => ?_)
    clear hK K
    try simp only [Act.put, List.getElem_toArray, List.getElem_cons_zero, List.getElem_cons_succ, List.setIfInBounds_toArray, List.set_cons_zero, List.set_cons_succ]
    refine wpAnyH_ready (rs := [20]) (by kernel_rfl) (by simp) ?_
    refine AllReadyH.cons rfl (fun K hK => ?_) AllReadyH.nil
    go_simp
    refine (HM.out _ (hbW.trans (hBu3.mono hbW.size))).mono ?_
    rintro e u4 ⟨rfl, hbu4⟩
    have hBu4 : Below W.heap.size W u4 := (hBu3).trans (hbu4.mono (hBu3).size)
    refine hK.out _ _ (HC.out _ (HX.out _ hBu4)) (fun hHeld => ?_)
    clear hK K
    try simp only [Act.put, List.getElem_toArray, List.getElem_cons_zero, List.getElem_cons_succ, List.setIfInBounds_toArray, List.set_cons_zero, List.set_cons_succ]
    refine wpAnyH_take (i := 21) (v := .bool M) rfl (by kernel_rfl) (by kernel_rfl) (by kernel_rfl) (fun _ _ _ h => h) (Or.inl ⟨by rfl, ?_⟩) hHeld ?_
    · intro w' hSw
      go_simp <;> rfl
    try simp only [Act.put, List.getElem_toArray, List.getElem_cons_zero, List.getElem_cons_succ, List.setIfInBounds_toArray, List.set_cons_zero, List.set_cons_succ]
    refine wpAnyH_take (i := 22) (v := .bool M) rfl (by kernel_rfl) (by kernel_rfl) (by kernel_rfl) (fun _ _ _ h => h) (Or.inl ⟨by rfl, ?_⟩) hHeld ?_
    · intro w' hSw
      go_simp <;> rfl
    try simp only [Act.put, List.getElem_toArray, List.getElem_cons_zero, List.getElem_cons_succ, List.setIfInBounds_toArray, List.set_cons_zero, List.set_cons_succ]
    refine wpAnyH_done (by kernel_rfl) ?_ _
    go_wp2
    go_ret
    exact ⟨ret_bool HR.out.symm, hbW.trans (hBu4.mono hbW.size)⟩
end Go.Proofs.YtjaojcgfgkppgaaGreatDoor

/- The walks of impl.markSlots over impl.slotHas and over impl.slotOk. -/
namespace Go.Proofs.YtjaojcgfgkppgaaGreatDoor
open Go.RowKit

/-- A row of four marks of which the first ones are laid. -/
def mkB (bs : List Bool) : List Value := bs.map Value.bool ++ List.replicate (4 - bs.length) (.bool false)
theorem mkB_set (bs : List Bool) (b : Bool) (h : bs.length < 4) : (mkB bs).set bs.length (.bool b) = mkB (bs ++ [b]) := by
  unfold mkB
  rw [List.set_append_right _ _ (by simp)]
  have e : 4 - bs.length = (4 - (bs ++ [b]).length) + 1 := by simp; omega
  rw [e, List.replicate_succ]
  simp
theorem mkB_len (bs : List Bool) (h : bs.length ≤ 4) : (mkB bs).length = 4 := by simp [mkB]; omega
theorem mkB_all (bs : List Bool) (h : bs.length = 4) : mkB bs = bs.map Value.bool := by simp [mkB, h]
theorem mkB_some (bs : List Bool) (h : bs.length ≤ 4) (k : Nat) (hk : k < 4) : ∃ v, (mkB bs)[k]? = some v := ⟨_, List.getElem?_eq_getElem (by rw [mkB_len bs h]; exact hk)⟩
/-- The answer is a row of these four marks. -/
def FourAns (bs : List Bool) (e : Ending) : Prop := ∃ c0 c1 c2 c3 : Bool, e = .returned (.agg #[.bool c0, .bool c1, .bool c2, .bool c3]) ∧ bs = [c0, c1, c2, c3]
theorem take_snoc (ss : List SlotA) (q : SlotV → Bool) (k : Nat) (h : k < ss.length) : (ss.take (k + 1)).map (fun s => q s.v) = (ss.take k).map (fun s => q s.v) ++ [q (ss.getD k zeroS).v] := by
  rw [List.take_add_one, List.map_append]
  simp [List.getD, h]

set_option maxHeartbeats 1000000 in
set_option maxRecDepth 100000 in
theorem markSlots_ok (p : PageA) (h4 : p.ss.length = 4) (w : World) (hg : ErrT w) (hr : ReadsS w p.ss) (hl : Fit p.ss) :
    Calls Tryz.prog 104 #[.agg p.cells.toArray, .func (.func 75) #[] #[]] w fun e w' => FourAns (p.ss.map (fun s => slotB s.v)) e ∧ Below w.heap.size w w' := by
  obtain ⟨n, ss⟩ := p
  simp only [PageA.cells] at *
  obtain ⟨W, hW, b0, b1, b2, hbW, hsW⟩ := boxes3 w (.int .i64 n :: cellsS ss) [.bool false, .bool false, .bool false, .bool false] [.bool false, .bool false, .bool false, .bool false] 52 148 148
  have b2' : Box W (w.heap.size + 1 + 1) (mkB []) 148 := b2
  have hsW' : w.heap.size + 1 + 1 < W.heap.size := by omega
  have hrg0 : W.rangeAt w.heap.size 1 (cellsS ss) := Box.range [.int .i64 n] (cellsS ss) [] (by simpa using b0)
  have hi0 : (Tryz.prog.info? 50).map (·.size) = some (cellsS ss).length := by rw [cellsS_len, h4]; kernel_rfl
  have HX := run_index_slot ss h4
  have H4 : Hid (ss.length = 4) := h4
  clear b2 hsW h4
  go_enter Tryz.func104, Tryz.ntmps104
  go_wp2_with (first | (guard_target = wpList _ _ _ (Oper.mk (some 9) _ _ _ _ _ :: _) _ _; refine wpList_load_mid rfl 50 (.tmp 8) rfl w.heap.size 1 rfl (cellsS ss) _ (by rw [hW.out]; exact hrg0) Tryz.underlying50 rfl hi0 ?_) | fail)
  rw [hW.out]
  clear hW hrg0 hi0
  go_loopw [10] (fun i wr => ∃ (k : Nat) (bs : List Bool), i = .int .i64 k ∧ k ≤ 4 ∧ Hid (bs.length = k ∧ bs = (ss.take k).map (fun s => slotB s.v)) ∧ Box wr (w.heap.size + 1 + 1) (mkB bs) 148 ∧ Below (w.heap.size + 1 + 1) W wr)
    (fun i _ => 4 - (intOf i).toNat)
  case atStart => exact ⟨0, [], rfl, by omega, ⟨rfl, rfl⟩, b2', Below.refl _ _⟩
  case round =>
    obtain ⟨k, bs, rfl, hk, hbs, hbox, hbl⟩ := hrel
    clear b2'
    have b1r := b1.below hbl (by omega)
    have hsr := hbl.size
    by_cases hlt : k < 4
    · have hkl : k < ss.length := by rw [H4.out]; exact hlt
      have hx := HX k hlt
      clear HX
      have hbs4 : bs.length ≤ 4 := by have := hbs.out.1; omega
      have HV : Hid (_ = _) := take_snoc ss (fun s => slotB s) k hkl
      have hgr := hg.keep (hbW.trans (hbl.mono (by omega)))
      have hrk := (hr _ (getD_mem hkl)).below (hbW.trans (hbl.mono (by omega)))
      have hlk : Fit [ss.getD k zeroS] := fun s hs => by obtain rfl := List.mem_singleton.1 hs; exact hl _ (getD_mem hkl)
      generalize ss.getD k zeroS = s at *
      simp only [SlotA.cells] at hx
      obtain ⟨W1, hW1, bx, hbx1, hsx1⟩ := boxes1 wr [.bool s.v.has, .int .i64 s.v.o.kind, .slice s.aI s.v.o.ints.length s.cI, .slice s.aR s.v.o.refs.length s.cR] 27
      have hsz := hbox.lt
      have B1 : Below (w.heap.size + 1 + 1) W W1 := hbl.trans (hbx1.mono (by omega))
      go_wp2_with fail
      rw [hW1.out]
      clear hx
      refine (slotOk_any s W1 (hgr.keep hbx1) (hrk.below hbx1) hlk).mono ?_
      rintro e w2 ⟨rfl, hb2⟩
      have hs2 := hb2.size
      have bm2 := (hbox.below hbx1 hsz).below hb2 (by omega)
      obtain ⟨u, hu⟩ := mkB_some bs hbs4 k hlt
      have hc := bm2.cell k u hu
      have hf := bm2.frozen k
      obtain ⟨W3, hW3, b3, hw3, hs3⟩ := box_set bm2 k (.bool (slotB s.v))
      have b3' : Box W3 (w.heap.size + 1 + 1) (mkB (bs ++ [slotB s.v])) 148 := by
        have e := mkB_set bs (slotB s.v) (by have := hbs.out.1; omega)
        rw [hbs.out.1] at e
        rw [← e]; exact b3
      have HB : Hid ((bs ++ [slotB s.v]).length = k + 1 ∧ bs ++ [slotB s.v] = (ss.take (k + 1)).map (fun s => slotB s.v)) := ⟨by have := hbs.out.1; simp; omega, by rw [HV.out, ← hbs.out.2]⟩
      have B3 : Below (w.heap.size + 1 + 1) W W3 := (B1.trans (hb2.mono (by omega))).trans (hw3.below (Nat.le_refl _) (by omega))
      clear b3 bm2 hu HV
      go_wp2_with fail
      rw [hW3.out]
      go_roundw
      case rel => exact ⟨k + 1, bs ++ [slotB s.v], by go_num, by omega, HB, b3', B3⟩
      case measure => simp [intOf]; omega
    · obtain rfl : k = 4 := by omega
      have hkk : ¬ ((4 : Nat) : Int) < 4 := by omega
      have HQ : Hid (bs = ss.map (fun s => slotB s.v)) := by rw [Hid, hbs.out.2, List.take_of_length_le (by rw [H4.out]; omega)]
      obtain ⟨c0, c1, c2, c3, rfl⟩ : ∃ c0 c1 c2 c3, bs = [c0, c1, c2, c3] := by
        match bs, hbs.out.1 with
        | [c0, c1, c2, c3], _ => exact ⟨c0, c1, c2, c3, rfl⟩
      have hbx : Box wr (w.heap.size + 1 + 1) [.bool c0, .bool c1, .bool c2, .bool c3] 148 := hbox
      obtain ⟨x0, x1, x2, x3, _⟩ := hbx.four
      obtain ⟨y0, y1, y2, y3, f0, f1, f2, f3⟩ := b1r.four
      obtain ⟨WF, hWF, bF, hwF, hsF⟩ := box4_fill b1r (.bool c0) (.bool c1) (.bool c2) (.bool c3)
      have hbF : Below w.heap.size w WF := (hbW.trans (hbl.mono (by omega))).trans (hwF.below (by omega) (by omega))
      clear hbox hbs
      go_wp2
      rw [hWF.out]
      obtain ⟨q0, q1, q2, q3, _⟩ := bF.four
      exact bodyPost_ret (v := .agg #[.bool c0, .bool c1, .bool c2, .bool c3]) (by simp [results, Tryz.results104, go_sem, q0, q1, q2, q3]) rfl ⟨⟨c0, c1, c2, c3, rfl, HQ.out.symm⟩, hbF⟩
end Go.Proofs.YtjaojcgfgkppgaaGreatDoor

/- The walk of impl.PageOk. -/
namespace Go.Proofs.YtjaojcgfgkppgaaGreatDoor
open Go.RowKit

theorem okP_out {n : Int} {vs : List SlotV} (h : inB n 0 1000000 = false) : okP n vs = false := by simp [okP, h]
theorem okP_four {n : Int} {ss : List SlotA} {c0 c1 c2 c3 : Bool} (h : inB n 0 1000000 = true) (hb : ss.map (fun s => slotB s.v) = [c0, c1, c2, c3]) : okP n (ss.map (·.v)) = (c0 && (c1 && (c2 && c3))) := by
  have e : (ss.map (·.v)).map slotB = [c0, c1, c2, c3] := by rw [List.map_map]; exact hb
  have e2 : ∀ vs : List SlotV, vs.all slotB = (vs.map slotB).all id := fun vs => by induction vs with
    | nil => rfl
    | cons v r ih => rw [List.all_cons, List.map_cons, List.all_cons, ← ih]; rfl
  rw [okP, h, Bool.and_true, e2, e]
  simp

theorem run_eq4 (c0 c1 c2 c3 : Bool) (w : World) : (Op.equalIn 10000 148 (.agg #[.bool c0, .bool c1, .bool c2, .bool c3]) (.agg #[.bool true, .bool true, .bool true, .bool true])).run Tryz.prog w = .ok (c0 && (c1 && (c2 && c3))) w := by
  cases c0 <;> cases c1 <;> cases c2 <;> cases c3 <;> kernel_rfl

set_option maxHeartbeats 1000000 in
set_option maxRecDepth 100000 in
theorem implPageOk_any (p : PageA) (h4 : p.ss.length = 4) (w : World) (hg : ErrT w) (hr : ReadsS w p.ss) (hl : Fit p.ss) :
    Calls Tryz.prog 74 #[.agg p.cells.toArray] w fun e w' => e = .returned (.bool (okP p.lsn (p.ss.map (·.v)))) ∧ Below w.heap.size w w' := by
  obtain ⟨W, hW, b0, b1, hbW, hsW⟩ := boxes2 w p.cells [.bool true, .bool true, .bool true, .bool true] 52 148
  have hc0 : ∀ w', Below W.heap.size W w' → w'.cell? ⟨w.heap.size, 0, none⟩ = some (.int .i64 p.lsn) := fun w' hh => (b0.below hh b0.lt).cell 0 _ rfl
  have hw0 := hc0 W (Below.refl _ _)
  cases hin : inB p.lsn 0 1000000 with
  | false =>
    have HF : Hid (okP p.lsn (p.ss.map (·.v)) = false) := okP_out hin
    have hz := inB_false hin
    clear hin hc0
    generalize okP p.lsn (p.ss.map (·.v)) = R at *
    generalize p.lsn = n at *
    rcases hz with h1 | ⟨h1, h2⟩
    · have h1' : decide ((0 : Int) ≤ n) = false := decide_eq_false (by omega)
      clear h1
      go_enter Tryz.func74, Tryz.ntmps74
      go_wp2_with fail
      rw [hW.out]
      go_quiet (fail)
      go_wp2
      go_ret
      exact ⟨ret_bool HF.out.symm, below_drewN hbW _⟩
    · have h1' : decide ((0 : Int) ≤ n) = true := decide_eq_true (by omega)
      have h2' : decide (n ≤ 1000000) = false := decide_eq_false (by omega)
      clear h1 h2
      go_enter Tryz.func74, Tryz.ntmps74
      go_wp2_with fail
      rw [hW.out]
      go_quiet (fail)
      go_wp2
      go_ret
      exact ⟨ret_bool HF.out.symm, below_drewN hbW _⟩
  | true =>
    obtain ⟨h1, h2⟩ := inB_true hin
    have h1' : (0 : Int) ≤ p.lsn := by omega
    have h2' : p.lsn ≤ 1000000 := by omega
    have HIN : Hid (_ = _) := hin
    have HRG : Hid (∀ w', Below W.heap.size W w' → w'.rangeAt w.heap.size 0 p.cells) := fun w' hh => Box.range [] p.cells [] (by simpa using b0.below hh b0.lt)
    have HRA : Hid (∀ w', Below W.heap.size W w' → w'.rangeAt (w.heap.size + 1) 0 [.bool true, .bool true, .bool true, .bool true]) := fun w' hh => Box.range [] [.bool true, .bool true, .bool true, .bool true] [] (by simpa using b1.below hh b1.lt)
    have HI : Hid ((Tryz.prog.info? 52).map (·.size) = some p.cells.length) := by rw [Hid, page_len p h4]; kernel_rfl
    clear hin h1 h2
    go_enter Tryz.func74, Tryz.ntmps74
    go_wp2_with fail
    rw [hW.out]
    refine wp_region_held_drew (S := fun w' => w'.cell? ⟨w.heap.size, 0, none⟩ = some (.int .i64 p.lsn) ∧ w'.rangeAt w.heap.size 0 p.cells ∧ w'.rangeAt (w.heap.size + 1) 0 [.bool true, .bool true, .bool true, .bool true]) (by kernel_rfl) ?_ (fun hHeld => ?_)
    · exact ⟨hc0 _ (Below.refl _ _).drew, HRG.out _ (Below.refl _ _).drew, HRA.out _ (Below.refl _ _).drew⟩
    have hd1 : decide ((0 : Int) ≤ p.lsn) = true := decide_eq_true h1'
    have hd2 : decide (p.lsn ≤ 1000000) = true := decide_eq_true h2'
    refine wpAnyH_take (i := 0) (v := .pointer (some ⟨w.heap.size, 0, none⟩)) rfl (by kernel_rfl) (by kernel_rfl) (by kernel_rfl) (fun _ _ _ h => h) (Or.inl ⟨by rfl, fun w' hw' => ?_⟩) hHeld ?_
    · go_simp
    go_simp
    refine wpAnyH_take (i := 1) (v := .int .i64 p.lsn) rfl (by kernel_rfl) (by kernel_rfl) (by kernel_rfl) (fun _ _ _ h => h) (Or.inl ⟨by rfl, fun w' hw' => ?_⟩) hHeld ?_
    · have q := hw'.1; go_simp
    go_simp
    refine wpAnyH_take (i := 2) (v := .bool true) rfl (by kernel_rfl) (by kernel_rfl) (by kernel_rfl) (fun _ _ _ h => h) (Or.inl ⟨by rfl, fun w' hw' => ?_⟩) hHeld ?_
    · go_simp
    go_simp
    refine wpAnyH_take (i := 3) (v := .bool true) rfl (by kernel_rfl) (by kernel_rfl) (by kernel_rfl) (fun _ _ _ h => h) (Or.inl ⟨by rfl, fun w' hw' => ?_⟩) hHeld ?_
    · go_simp
    go_simp
    refine wpAnyH_take (i := 4) (v := .pointer (some ⟨w.heap.size, 0, none⟩)) rfl (by kernel_rfl) (by kernel_rfl) (by kernel_rfl) (fun _ _ _ h => h) (Or.inl ⟨by rfl, fun w' hw' => ?_⟩) hHeld ?_
    · go_simp
    go_simp
    refine wpAnyH_take (i := 5) (v := .int .i64 p.lsn) rfl (by kernel_rfl) (by kernel_rfl) (by kernel_rfl) (fun _ _ _ h => h) (Or.inl ⟨by rfl, fun w' hw' => ?_⟩) hHeld ?_
    · have q := hw'.1; go_simp
    go_simp
    refine wpAnyH_take (i := 6) (v := .bool true) rfl (by kernel_rfl) (by kernel_rfl) (by kernel_rfl) (fun _ _ _ h => h) (Or.inl ⟨by rfl, fun w' hw' => ?_⟩) hHeld ?_
    · go_simp
    go_simp
    refine wpAnyH_take (i := 7) (v := .bool true) rfl (by kernel_rfl) (by kernel_rfl) (by kernel_rfl) (fun _ _ _ h => h) (Or.inl ⟨by rfl, fun w' hw' => ?_⟩) hHeld ?_
    · go_simp
    go_simp
    refine wpAnyH_take (i := 8) (v := .bool true) rfl (by kernel_rfl) (by kernel_rfl) (by kernel_rfl) (fun _ _ _ h => h) (Or.inl ⟨by rfl, fun w' hw' => ?_⟩) hHeld ?_
    · go_simp
    go_simp
    refine wpAnyH_take (i := 9) rfl (by kernel_rfl) (by kernel_rfl) (by kernel_rfl) (fun _ _ _ h => h) (yieldsIf_load_mid (by rfl) _ _ rfl _ _ rfl p.cells _ (fun _ h => h.2.1) Tryz.underlying52 rfl HI.out) hHeld ?_
    go_simp
    refine wpAnyH_take (i := 11) rfl (by kernel_rfl) (by kernel_rfl) (by kernel_rfl) (fun _ _ _ h => h) (yieldsIf_load_mid (by rfl) _ _ rfl _ _ rfl [.bool true, .bool true, .bool true, .bool true] _ (fun _ h => h.2.2) Tryz.underlying148 rfl (by kernel_rfl)) hHeld ?_
    go_simp
    refine wpAnyH_ready (rs := [10]) (by kernel_rfl) (by simp) ?_
    refine AllReadyH.cons rfl (fun K hK => ?_) AllReadyH.nil
    go_simp
    refine (markSlots_ok p h4 _ (hg.keep hbW.drew) (hr.below hbW.drew) hl).mono ?_
    rintro e w2 ⟨⟨c0, c1, c2, c3, rfl, hcs⟩, hb2⟩
    have B2 : Below W.heap.size W w2 := ((Below.refl _ _).drew).trans hb2
    have HR : Hid (_ = _) := okP_four HIN.out hcs
    clear hcs
    refine hK.out _ _ ⟨hc0 _ B2, HRG.out _ B2, HRA.out _ B2⟩ (fun hHeld => ?_)
    clear hK K
    refine wpAnyH_take (i := 12) (v := .bool (c0 && (c1 && (c2 && c3)))) rfl (by kernel_rfl) (by kernel_rfl) (by kernel_rfl) (fun _ _ _ h => h) (Or.inl ⟨by rfl, fun w' hw' => ?_⟩) hHeld ?_
    · have q := run_eq4 c0 c1 c2 c3 w'; go_simp
    go_simp
    generalize (c0 && (c1 && (c2 && c3))) = D at *
    refine wpAnyH_take (i := 13) (v := .bool D) rfl (by kernel_rfl) (by kernel_rfl) (by kernel_rfl) (fun _ _ _ h => h) (Or.inl ⟨by rfl, fun w' hw' => ?_⟩) hHeld ?_
    · go_simp
    go_simp
    refine wpAnyH_take (i := 14) (v := .bool D) rfl (by kernel_rfl) (by kernel_rfl) (by kernel_rfl) (fun _ _ _ h => h) (Or.inl ⟨by rfl, fun w' hw' => ?_⟩) hHeld ?_
    · go_simp
    go_simp
    refine wpAnyH_done (by kernel_rfl) ?_ _
    go_wp2
    go_ret
    exact ⟨ret_bool HR.out.symm, hbW.trans (B2.mono hbW.size)⟩
end Go.Proofs.YtjaojcgfgkppgaaGreatDoor

/- The walks of impl.putParts and impl.PutObj. -/
namespace Go.Proofs.YtjaojcgfgkppgaaGreatDoor
open Go.RowKit

end Go.Proofs.YtjaojcgfgkppgaaGreatDoor

/- Appending a text's bytes to a row that the call owns. -/
namespace Go.Proofs.YtjaojcgfgkppgaaGreatDoor
open Go.RowKit

theorem sBytes_cells (s : ByteArray) : (sBytes s).map (Value.int .u8) = Lib.strCells s := by
  simp [sBytes, Lib.strCells]

theorem append_text {w : World} {ops : Array Oper} {rest : List Oper} {o : Oper} {act : Act} {Q : Exit → Act → World → Prop} (hgd : o.guard = none) (sl x : Operand)
    (ho : o.op = .call { callee := .builtin .append, args := #[sl, x], argTypes := #[22, 9] })
    (base : Nat) (a : Option Addr) (c : Nat) (xs : List Int) (hs : act.eval sl = .slice a xs.length c) (hown : OwnB w base a c xs)
    (s : ByteArray) (hx : act.eval x = .string s) (hb : xs.length + s.size ≤ 70368744177664) (hbase : base ≤ w.heap.size)
    (h : ∀ a' c' ys w', Hid (ys = xs ++ sBytes s) → OwnB w' base a' c' ys → w.grownBy w' (Value.slice a xs.length c).ownBlock → wpList Tryz.prog ops Q rest (act.put o.dst (.slice a' ys.length c')) w') :
    wpList Tryz.prog ops Q (o :: rest) act w := by
  obtain ⟨i0, hi, hz0, hz1, hz2⟩ := info_parts Tryz.infoU8
  refine Lib.wpList_append_own_string w hgd sl x 22 9 ho base 5 i0 Tryz.underlying22 Tryz.underlying9 hi hz0 hz1 hz2 _ _ _ hs hown.2 s hx (by simp only [maxLen]; omega) (by omega) hbase ?_
  intro v' w' h1 h2 _
  have e1 : xs.length + s.size = (xs ++ sBytes s).length := by rw [List.length_append, sBytes_len]
  have e2 : xs.map (Value.int .u8) ++ Lib.strCells s = (xs ++ sBytes s).map (Value.int .u8) := by rw [List.map_append, sBytes_cells]
  rw [e1, e2] at h1
  have sh : ∃ a' c', v' = .slice a' (xs ++ sBytes s).length c' := by
    rcases h1.2 with ⟨rfl, h0⟩ | ⟨g, cap, cur, rfl, _⟩
    · exact ⟨none, 0, by rw [h0]⟩
    · exact ⟨_, _, rfl⟩
  obtain ⟨a', c', rfl⟩ := sh
  refine h a' c' (xs ++ sBytes s) w' rfl ⟨?_, h1⟩ h2
  intro z hz
  rcases List.mem_append.1 hz with h3 | h3
  · exact hown.1 z h3
  · exact sBytes_byte s z h3

/-- A text's iterator stays while a row of bytes is written. -/
theorem iter_kept {w w' : World} {base : Nat} {a : Option Addr} {c : Nat} {ys : List Int} {k pos : Nat} {s : ByteArray} (ho : OwnB w base a c ys) (hg : w.grownBy w' (Value.slice a ys.length c).ownBlock)
    (hk : w.heap[k]? = some (.stringIter s pos)) : w'.heap[k]? = some (.stringIter s pos) := by
  rw [hg.block k (Array.getElem?_eq_some_iff.1 hk).1 ?_]
  · exact hk
  · intro e
    rcases ho.2.2 with ⟨hv, _⟩ | ⟨g, cap, cur, hv, hg1, hgg, hr⟩
    · rw [hv] at e; simp [Value.ownBlock] at e
    · rw [hv] at e
      simp only [Value.ownBlock, Option.some.injEq] at e
      subst e
      rw [hgg] at hk
      cases hk

theorem OwnB.iterAt {w : World} {base : Nat} {a : Option Addr} {c : Nat} {ys : List Int} {k pos : Nat} {s : ByteArray} (ho : OwnB w base a c ys) (hk : w.heap[k]? = some (.stringIter s pos)) (pos' : Nat) : OwnB (w.iterAt k s pos') base a c ys := by
  refine ⟨ho.1, ho.2.1, ?_⟩
  rcases ho.2.2 with h0 | ⟨g, cap, cur, hv, hg1, hgg, hr⟩
  · exact .inl h0
  · refine .inr ⟨g, cap, cur, hv, hg1, ?_, hr⟩
    rw [Lib.iterAt_other w k g s pos' (by intro e; subst e; rw [hgg] at hk; cases hk)]
    exact hgg

theorem width_pos (s : ByteArray) (pos : Nat) (h : pos < s.size) : 1 ≤ (Utf8.decode s pos).2 := by
  by_cases ha : (s[pos]'h).toNat < 128
  · rw [decode_ascii s pos h ha]; exact Nat.le_refl _
  · exact (decode_high s pos h (by omega)).2

end Go.Proofs.YtjaojcgfgkppgaaGreatDoor

/- The walk of impl.appendRunes: all of a text's bytes, rune by rune. -/
namespace Go.Proofs.YtjaojcgfgkppgaaGreatDoor
open Go.RowKit

end Go.Proofs.YtjaojcgfgkppgaaGreatDoor

/- The walks of impl.PutText and spec.PutText. -/
namespace Go.Proofs.YtjaojcgfgkppgaaGreatDoor
open Go.RowKit

def putTextOf (s : ByteArray) : List Int := putOf s.size ++ sBytes s

end Go.Proofs.YtjaojcgfgkppgaaGreatDoor

/- Plain mathematics: a text comes back of its bytes. -/
namespace Go.Proofs.YtjaojcgfgkppgaaGreatDoor

theorem strOf_sBytes (s : ByteArray) : strOf (sBytes s) = s := by
  unfold strOf sBytes
  rw [List.map_map]
  have e : (s.data.toList.map ((fun z : Int => UInt8.ofNat z.toNat) ∘ fun b : UInt8 => (b.toNat : Int))) = s.data.toList := by
    rw [List.map_congr_left (g := id)]
    · simp
    · intro b _
      simp
  rw [e]

theorem back_text (zs : List Int) (s : ByteArray) (hs : s.size ≤ 1000000) : textOf (zs ++ putTextOf s) zs.length = .tuple #[.string s, .int .i64 (((zs ++ putTextOf s).length : Nat) : Int), .bool true] := by
  have hc : clampI (s.size : Int) = s.size := by unfold clampI; rw [if_neg (by omega), if_neg (by omega)]
  have hl : (zs ++ putTextOf s).length = zs.length + (putOf s.size).length + s.size := by
    rw [List.length_append, putTextOf, List.length_append, sBytes_len]; omega
  have hg : getAt (zs ++ putTextOf s) zs.length = some ((s.size : Int), zs.length + (putOf s.size).length) := by
    rw [putTextOf, back_int, hc]
  unfold textOf
  rw [hg]
  simp only
  rw [if_pos ⟨by omega, by rw [hl]; omega⟩, hl, Int.toNat_natCast]
  have hd : (zs ++ putTextOf s).drop (zs.length + (putOf s.size).length) = sBytes s := by
    rw [putTextOf, ← List.append_assoc, ← List.length_append, List.drop_left]
  rw [hd, List.take_of_length_le (by rw [sBytes_len]; exact Nat.le_refl _), strOf_sBytes]
  rw [show ((zs.length + (putOf (s.size : Int)).length : Nat) : Int) + (s.size : Int) = ((zs.length + (putOf (s.size : Int)).length + s.size : Nat) : Int) from by omega]

end Go.Proofs.YtjaojcgfgkppgaaGreatDoor

/- The walks of impl.putSlot and impl.PutPage. -/
namespace Go.Proofs.YtjaojcgfgkppgaaGreatDoor
open Go.RowKit

theorem strOf_size (y : List Int) : (strOf y).size = y.length := by simp [strOf, ByteArray.size]
theorem sBytes_strOf (y : List Int) (h : Bytes y) : sBytes (strOf y) = y := by
  unfold sBytes strOf
  simp only [List.map_map]
  conv => rhs; rw [← List.map_id y]
  apply List.map_congr_left
  intro z hz
  have := h z hz
  simp
  omega
theorem putText_put (o : ObjV) : putTextOf (strOf (putObjOf o)) = putOf (putObjOf o).length ++ putObjOf o := by
  unfold putTextOf
  rw [strOf_size, sBytes_strOf _ (putObj_byte o)]
theorem flatS_take (ss : List SlotA) (k : Nat) (h : k < ss.length) : ((ss.take (k + 1)).map (·.v)).flatMap putSlotOf = ((ss.take k).map (·.v)).flatMap putSlotOf ++ putSlotOf (ss.getD k zeroS).v := by
  rw [List.take_add_one, List.map_append, List.flatMap_append]
  simp [List.getD, h]

end Go.Proofs.YtjaojcgfgkppgaaGreatDoor

/- The walk of impl.PutRec. -/
namespace Go.Proofs.YtjaojcgfgkppgaaGreatDoor
open Go.RowKit

theorem flagInt_any (b : Bool) (w : World) : Calls Tryz.prog 112 #[.bool b] w fun e w' => e = .returned (.int .i64 (if b then 1 else 0)) ∧ w' = w := by
  cases b
  · go_enter Tryz.func112, Tryz.ntmps112
    go_wp2
    go_ret
    exact ⟨rfl, rfl⟩
  · go_enter Tryz.func112, Tryz.ntmps112
    go_wp2
    go_ret
    exact ⟨rfl, rfl⟩
theorem bodyR_parts {r : RecV} (h : okR r = true) : bodyR r = ((((headR r).flatMap putOf ++ (putOf (putObjOf r.bf.o).length ++ putObjOf r.bf.o)) ++ (putOf (putObjOf r.af.o).length ++ putObjOf r.af.o)) ++ putOf r.txs.length) ++ r.txs.flatMap putLive := by
  have d := okR_bd h
  unfold bodyR
  rw [putSlot_one d.bf, putSlot_one d.af]

end Go.Proofs.YtjaojcgfgkppgaaGreatDoor
