/- Several texts in one, in their order. -/
import Derived.Test.YtjaojcgfgkppgabDoorPart10
import Derived.Test.YtjaojcgfgkppgabDoorPart7
import Derived.Test.YtjaojcgfgkppgabDoorPart8
import Derived.Deep.RegionHeld3
import Derived.Deep.CutRange
/- The walk of impl.RecOk. -/
namespace Go.Proofs.YtjaojcgfgkppgabDoor
open Go.RowKit

/-- Is what the record tells right? -/
def deedB (n : Int) (r : RecV) : Bool :=
  if r.kind == 1 then (linkB n r.tx r.prev && (inB r.oid 1 31 && (slotB r.bf && slotB r.af)))
  else if r.kind == 2 then linkB n r.tx r.prev
  else if r.kind == 3 then linkB n r.tx r.prev
  else if r.kind == 4 then (linkB n r.tx r.prev && (inB r.oid 1 31 && (slotB r.af && inB r.next 0 (n - 1))))
  else if r.kind == 5 then linkB n r.tx r.prev
  else if r.kind == 6 then livesB n r.txs
  else false
/-- The record that tells this and nothing else. -/
def cutA (n : Int) (r : RecA) : RecA :=
  if r.kind == 1 then ⟨n, r.tx, r.prev, 1, r.oid, r.bf, r.af, 0, [], none, 0⟩
  else if r.kind == 2 then recA n r.tx r.prev 2
  else if r.kind == 3 then recA n r.tx r.prev 3
  else if r.kind == 4 then ⟨n, r.tx, r.prev, 4, r.oid, zeroS, r.af, r.next, [], none, 0⟩
  else if r.kind == 5 then recA n r.tx r.prev 5
  else if r.kind == 6 then ⟨n, 0, 0, 6, 0, zeroS, zeroS, 0, r.txs, r.aL, r.cL⟩
  else recA 0 0 0 0
theorem one_fit {s : SlotA} (h : s.v.o.ints.length ≤ 1099511627776 ∧ s.v.o.refs.length ≤ 1099511627776) : Fit [s] := fun t ht => by obtain rfl := List.mem_singleton.1 ht; exact h

theorem deedOk_any (n : Int) (r : RecA) (w : World) (hg : ErrT w) (hr : r.reads w) (hl : r.short 1099511627776) :
    Calls Tryd.prog 35 #[.int .i64 n, deedV r] w fun e w' => e = .returned (.bool (deedB n r.v)) ∧ Below w.heap.size w w' := by
  cases k1 : (r.kind == 1) with
  | true =>
    have e1 : deedV r = issetDeed (setD r.tx r.prev r.oid r.bf r.af) := by simp [deedV, k1]
    have e2 : deedB n r.v = (linkB n r.tx r.prev && (inB r.oid 1 31 && (slotB r.bf.v && slotB r.af.v))) := by simp [deedB, RecA.v, k1]
    rw [e1, e2]
    exact deedOk_set n r.tx r.prev r.oid r.bf r.af w hg hr.bf hr.af (one_fit hl.bf) (one_fit hl.af)
  | false =>
    cases k2 : (r.kind == 2) with
    | true =>
      have e1 : deedV r = iscommitDeed (linkD r.tx r.prev) := by simp [deedV, k1, k2]
      have e2 : deedB n r.v = linkB n r.tx r.prev := by simp [deedB, RecA.v, k1, k2]
      rw [e1, e2]
      exact deedOk_commit n r.tx r.prev w
    | false =>
      cases k3 : (r.kind == 3) with
      | true =>
        have e1 : deedV r = isabortDeed (linkD r.tx r.prev) := by simp [deedV, k1, k2, k3]
        have e2 : deedB n r.v = linkB n r.tx r.prev := by simp [deedB, RecA.v, k1, k2, k3]
        rw [e1, e2]
        exact deedOk_abort n r.tx r.prev w
      | false =>
        cases k4 : (r.kind == 4) with
        | true =>
          have e1 : deedV r = isbackDeed (backD r.tx r.prev r.oid r.af r.next) := by simp [deedV, k1, k2, k3, k4]
          have e2 : deedB n r.v = (linkB n r.tx r.prev && (inB r.oid 1 31 && (slotB r.af.v && inB r.next 0 (n - 1)))) := by simp [deedB, RecA.v, k1, k2, k3, k4]
          rw [e1, e2]
          exact deedOk_back n r.tx r.prev r.oid r.af r.next w hg hr.af (one_fit hl.af)
        | false =>
          cases k5 : (r.kind == 5) with
          | true =>
            have e1 : deedV r = isendDeed (linkD r.tx r.prev) := by simp [deedV, k1, k2, k3, k4, k5]
            have e2 : deedB n r.v = linkB n r.tx r.prev := by simp [deedB, RecA.v, k1, k2, k3, k4, k5]
            rw [e1, e2]
            exact deedOk_end n r.tx r.prev w
          | false =>
            cases k6 : (r.kind == 6) with
            | true =>
              have e1 : deedV r = ischeckDeed (checkD r.txs r.aL r.cL) := by simp [deedV, k1, k2, k3, k4, k5, k6]
              have e2 : deedB n r.v = livesB n r.txs := by simp [deedB, RecA.v, k1, k2, k3, k4, k5, k6]
              rw [e1, e2]
              exact deedOk_check n r.txs r.aL r.cL w hr.txs hl.txs
            | false =>
              have e1 : deedV r = .nilIface := by simp [deedV, k1, k2, k3, k4, k5, k6]
              have e2 : deedB n r.v = false := by simp [deedB, RecA.v, k1, k2, k3, k4, k5, k6]
              rw [e1, e2]
              exact deedOk_nil n w
theorem recOf_any (n : Int) (r : RecA) (w : World) :
    Calls Tryd.prog 18 #[.int .i64 n, deedV r] w fun e w' => e = .returned (.agg (cutA n r).cells.toArray) ∧ Below w.heap.size w w' := by
  cases k1 : (r.kind == 1) with
  | true =>
    have e1 : deedV r = issetDeed (setD r.tx r.prev r.oid r.bf r.af) := by simp [deedV, k1]
    have e2 : cutA n r = ⟨n, r.tx, r.prev, 1, r.oid, r.bf, r.af, 0, [], none, 0⟩ := by simp [cutA, k1]
    rw [e1, e2]
    exact recOf_set n r.tx r.prev r.oid r.bf r.af w
  | false =>
    cases k2 : (r.kind == 2) with
    | true =>
      have e1 : deedV r = iscommitDeed (linkD r.tx r.prev) := by simp [deedV, k1, k2]
      have e2 : cutA n r = recA n r.tx r.prev 2 := by simp [cutA, k1, k2]
      rw [e1, e2]
      exact recOf_commit n r.tx r.prev w
    | false =>
      cases k3 : (r.kind == 3) with
      | true =>
        have e1 : deedV r = isabortDeed (linkD r.tx r.prev) := by simp [deedV, k1, k2, k3]
        have e2 : cutA n r = recA n r.tx r.prev 3 := by simp [cutA, k1, k2, k3]
        rw [e1, e2]
        exact recOf_abort n r.tx r.prev w
      | false =>
        cases k4 : (r.kind == 4) with
        | true =>
          have e1 : deedV r = isbackDeed (backD r.tx r.prev r.oid r.af r.next) := by simp [deedV, k1, k2, k3, k4]
          have e2 : cutA n r = ⟨n, r.tx, r.prev, 4, r.oid, zeroS, r.af, r.next, [], none, 0⟩ := by simp [cutA, k1, k2, k3, k4]
          rw [e1, e2]
          exact recOf_back n r.tx r.prev r.oid r.af r.next w
        | false =>
          cases k5 : (r.kind == 5) with
          | true =>
            have e1 : deedV r = isendDeed (linkD r.tx r.prev) := by simp [deedV, k1, k2, k3, k4, k5]
            have e2 : cutA n r = recA n r.tx r.prev 5 := by simp [cutA, k1, k2, k3, k4, k5]
            rw [e1, e2]
            exact recOf_end n r.tx r.prev w
          | false =>
            cases k6 : (r.kind == 6) with
            | true =>
              have e1 : deedV r = ischeckDeed (checkD r.txs r.aL r.cL) := by simp [deedV, k1, k2, k3, k4, k5, k6]
              have e2 : cutA n r = ⟨n, 0, 0, 6, 0, zeroS, zeroS, 0, r.txs, r.aL, r.cL⟩ := by simp [cutA, k1, k2, k3, k4, k5, k6]
              rw [e1, e2]
              exact recOf_check n r.txs r.aL r.cL w
            | false =>
              have e1 : deedV r = .nilIface := by simp [deedV, k1, k2, k3, k4, k5, k6]
              have e2 : cutA n r = recA 0 0 0 0 := by simp [cutA, k1, k2, k3, k4, k5, k6]
              rw [e1, e2]
              exact recOf_nil n w
theorem cutA_reads (n : Int) {r : RecA} {w : World} (h : r.reads w) : (cutA n r).reads w := by
  have z : zeroS.reads w := ⟨ReadsI.nil _ _, ReadsI.nil _ _, fun _ => rfl, fun _ => rfl⟩
  have y : ReadsL w none [] := ReadsL.nil _ _
  unfold cutA
  split
  · exact ⟨h.bf, h.af, y⟩
  split
  · exact ⟨z, z, y⟩
  split
  · exact ⟨z, z, y⟩
  split
  · exact ⟨z, h.af, y⟩
  split
  · exact ⟨z, z, y⟩
  split
  · exact ⟨z, z, h.txs⟩
  · exact ⟨z, z, y⟩
theorem cutA_short (n : Int) {r : RecA} {m : Nat} (h : r.short m) : (cutA n r).short m := by
  have z : zeroS.v.o.ints.length ≤ m ∧ zeroS.v.o.refs.length ≤ m := ⟨Nat.zero_le _, Nat.zero_le _⟩
  have y : ([] : List LiveV).length ≤ m := Nat.zero_le _
  unfold cutA
  split
  · exact ⟨h.bf, h.af, y⟩
  split
  · exact ⟨z, z, y⟩
  split
  · exact ⟨z, z, y⟩
  split
  · exact ⟨z, h.af, y⟩
  split
  · exact ⟨z, z, y⟩
  split
  · exact ⟨z, z, h.txs⟩
  · exact ⟨z, z, y⟩
theorem isNo_same (v : SlotV) : sameS noS v = isNo v := by
  obtain ⟨h, k, i, f⟩ := v
  cases h
  · simp [sameS, isNo, noS, noO, sameO, eq_comm]
  · simp [sameS, isNo, noS]
theorem sameS_refl (v : SlotV) : sameS v v = true := by simp [sameS, sameO]
theorem isNo_slot {v : SlotV} (h : isNo v = true) : slotB v = true := by
  obtain ⟨b, k, i, f⟩ := v
  cases b
  · simp [isNo, sameO] at h
    simp [slotB, h]
  · simp [isNo] at h
theorem zeroV : zeroS.v = noS := rfl

theorem okV_set (n t v o : Int) (b a : SlotV) (x : Int) (l : List LiveV) : ((inB n 1 1000000 && ((linkB n t v && (inB o 1 31 && (slotB b && slotB a))) && sameR ⟨n, t, v, 1, o, b, a, 0, []⟩ ⟨n, t, v, 1, o, b, a, x, l⟩)) = true) ↔ okR ⟨n, t, v, 1, o, b, a, x, l⟩ = true := by
  have hb : isNo b = true → slotB b = true := isNo_slot
  have ha : isNo a = true → slotB a = true := isNo_slot
  simp only [sameR, sameS_refl, sameLs_nil, okR, zeroB, linkB, Bool.and_eq_true, beq_self_eq_true, beq_iff_eq, decide_eq_true_eq, Bool.true_or, Bool.false_or]
  generalize isNo b = ib at *
  generalize isNo a = ia at *
  generalize slotB b = sb at *
  generalize slotB a = sa at *
  by_cases hl : l = []
  all_goals cases ib <;> cases ia <;> cases sb <;> cases sa <;> simp [inB, hl] at hb ha ⊢ <;> omega
theorem okR_set (r : RecA) (hk : r.kind = 1) : ((inB r.lsn 1 1000000 && ((linkB r.lsn r.tx r.prev && (inB r.oid 1 31 && (slotB r.bf.v && slotB r.af.v))) && sameR (RecA.v (⟨r.lsn, r.tx, r.prev, 1, r.oid, r.bf, r.af, 0, [], none, 0⟩)) r.v)) = true) ↔ okR r.v = true := by
  obtain ⟨n, t, v, k, o, b, a, x, l, aL, cL⟩ := r
  simp only at hk
  subst hk
  exact okV_set n t v o b.v a.v x l
theorem okV_commit (n t v o : Int) (b a : SlotV) (x : Int) (l : List LiveV) : ((inB n 1 1000000 && (linkB n t v && sameR ⟨n, t, v, 2, 0, noS, noS, 0, []⟩ ⟨n, t, v, 2, o, b, a, x, l⟩)) = true) ↔ okR ⟨n, t, v, 2, o, b, a, x, l⟩ = true := by
  have hb : isNo b = true → slotB b = true := isNo_slot
  have ha : isNo a = true → slotB a = true := isNo_slot
  simp only [sameR, isNo_same, sameLs_nil, okR, zeroB, linkB, Bool.and_eq_true, beq_self_eq_true, beq_iff_eq, decide_eq_true_eq, Bool.true_or, Bool.false_or]
  generalize isNo b = ib at *
  generalize isNo a = ia at *
  generalize slotB b = sb at *
  generalize slotB a = sa at *
  by_cases hl : l = []
  all_goals cases ib <;> cases ia <;> cases sb <;> cases sa <;> simp [inB, hl] at hb ha ⊢ <;> omega
theorem okR_commit (r : RecA) (hk : r.kind = 2) : ((inB r.lsn 1 1000000 && (linkB r.lsn r.tx r.prev && sameR (RecA.v (recA r.lsn r.tx r.prev 2)) r.v)) = true) ↔ okR r.v = true := by
  obtain ⟨n, t, v, k, o, b, a, x, l, aL, cL⟩ := r
  simp only at hk
  subst hk
  exact okV_commit n t v o b.v a.v x l
theorem okV_abort (n t v o : Int) (b a : SlotV) (x : Int) (l : List LiveV) : ((inB n 1 1000000 && (linkB n t v && sameR ⟨n, t, v, 3, 0, noS, noS, 0, []⟩ ⟨n, t, v, 3, o, b, a, x, l⟩)) = true) ↔ okR ⟨n, t, v, 3, o, b, a, x, l⟩ = true := by
  have hb : isNo b = true → slotB b = true := isNo_slot
  have ha : isNo a = true → slotB a = true := isNo_slot
  simp only [sameR, isNo_same, sameLs_nil, okR, zeroB, linkB, Bool.and_eq_true, beq_self_eq_true, beq_iff_eq, decide_eq_true_eq, Bool.true_or, Bool.false_or]
  generalize isNo b = ib at *
  generalize isNo a = ia at *
  generalize slotB b = sb at *
  generalize slotB a = sa at *
  by_cases hl : l = []
  all_goals cases ib <;> cases ia <;> cases sb <;> cases sa <;> simp [inB, hl] at hb ha ⊢ <;> omega
theorem okR_abort (r : RecA) (hk : r.kind = 3) : ((inB r.lsn 1 1000000 && (linkB r.lsn r.tx r.prev && sameR (RecA.v (recA r.lsn r.tx r.prev 3)) r.v)) = true) ↔ okR r.v = true := by
  obtain ⟨n, t, v, k, o, b, a, x, l, aL, cL⟩ := r
  simp only at hk
  subst hk
  exact okV_abort n t v o b.v a.v x l
theorem okV_back (n t v o : Int) (b a : SlotV) (x : Int) (l : List LiveV) : ((inB n 1 1000000 && ((linkB n t v && (inB o 1 31 && (slotB a && inB x 0 (n - 1)))) && sameR ⟨n, t, v, 4, o, noS, a, x, []⟩ ⟨n, t, v, 4, o, b, a, x, l⟩)) = true) ↔ okR ⟨n, t, v, 4, o, b, a, x, l⟩ = true := by
  have hb : isNo b = true → slotB b = true := isNo_slot
  have ha : isNo a = true → slotB a = true := isNo_slot
  simp only [sameR, isNo_same, sameS_refl, sameLs_nil, okR, zeroB, linkB, Bool.and_eq_true, beq_self_eq_true, beq_iff_eq, decide_eq_true_eq, Bool.true_or, Bool.false_or]
  generalize isNo b = ib at *
  generalize isNo a = ia at *
  generalize slotB b = sb at *
  generalize slotB a = sa at *
  by_cases hl : l = []
  all_goals cases ib <;> cases ia <;> cases sb <;> cases sa <;> simp [inB, hl] at hb ha ⊢ <;> omega
theorem okR_back (r : RecA) (hk : r.kind = 4) : ((inB r.lsn 1 1000000 && ((linkB r.lsn r.tx r.prev && (inB r.oid 1 31 && (slotB r.af.v && inB r.next 0 (r.lsn - 1)))) && sameR (RecA.v (⟨r.lsn, r.tx, r.prev, 4, r.oid, zeroS, r.af, r.next, [], none, 0⟩)) r.v)) = true) ↔ okR r.v = true := by
  obtain ⟨n, t, v, k, o, b, a, x, l, aL, cL⟩ := r
  simp only at hk
  subst hk
  exact okV_back n t v o b.v a.v x l
theorem okV_end (n t v o : Int) (b a : SlotV) (x : Int) (l : List LiveV) : ((inB n 1 1000000 && (linkB n t v && sameR ⟨n, t, v, 5, 0, noS, noS, 0, []⟩ ⟨n, t, v, 5, o, b, a, x, l⟩)) = true) ↔ okR ⟨n, t, v, 5, o, b, a, x, l⟩ = true := by
  have hb : isNo b = true → slotB b = true := isNo_slot
  have ha : isNo a = true → slotB a = true := isNo_slot
  simp only [sameR, isNo_same, sameLs_nil, okR, zeroB, linkB, Bool.and_eq_true, beq_self_eq_true, beq_iff_eq, decide_eq_true_eq, Bool.true_or, Bool.false_or]
  generalize isNo b = ib at *
  generalize isNo a = ia at *
  generalize slotB b = sb at *
  generalize slotB a = sa at *
  by_cases hl : l = []
  all_goals cases ib <;> cases ia <;> cases sb <;> cases sa <;> simp [inB, hl] at hb ha ⊢ <;> omega
theorem okR_end (r : RecA) (hk : r.kind = 5) : ((inB r.lsn 1 1000000 && (linkB r.lsn r.tx r.prev && sameR (RecA.v (recA r.lsn r.tx r.prev 5)) r.v)) = true) ↔ okR r.v = true := by
  obtain ⟨n, t, v, k, o, b, a, x, l, aL, cL⟩ := r
  simp only at hk
  subst hk
  exact okV_end n t v o b.v a.v x l
theorem okV_check (n t v o : Int) (b a : SlotV) (x : Int) (l : List LiveV) : ((inB n 1 1000000 && (livesB n l && sameR ⟨n, 0, 0, 6, 0, noS, noS, 0, l⟩ ⟨n, t, v, 6, o, b, a, x, l⟩)) = true) ↔ okR ⟨n, t, v, 6, o, b, a, x, l⟩ = true := by
  have hb : isNo b = true → slotB b = true := isNo_slot
  have ha : isNo a = true → slotB a = true := isNo_slot
  simp only [sameR, isNo_same, sameLs_refl, okR, zeroB, Bool.and_eq_true, beq_self_eq_true, beq_iff_eq, Bool.true_or, Bool.false_or]
  generalize isNo b = ib at *
  generalize isNo a = ia at *
  generalize slotB b = sb at *
  generalize slotB a = sa at *
  generalize livesB n l = L at *
  all_goals cases L <;> cases ib <;> cases ia <;> cases sb <;> cases sa <;> simp [inB] at hb ha ⊢ <;> omega
theorem okR_check (r : RecA) (hk : r.kind = 6) : ((inB r.lsn 1 1000000 && (livesB r.lsn r.txs && sameR (RecA.v (⟨r.lsn, 0, 0, 6, 0, zeroS, zeroS, 0, r.txs, r.aL, r.cL⟩)) r.v)) = true) ↔ okR r.v = true := by
  obtain ⟨n, t, v, k, o, b, a, x, l, aL, cL⟩ := r
  simp only at hk
  subst hk
  exact okV_check n t v o b.v a.v x l
/-- The landed code's test is the model's. -/
theorem okR_eq (r : RecA) : (inB r.lsn 1 1000000 && (deedB r.lsn r.v && sameR (cutA r.lsn r).v r.v)) = okR r.v := by
  rw [Bool.eq_iff_iff]
  cases k1 : (r.kind == 1) with
  | true =>
    have e2 : deedB r.lsn r.v = (linkB r.lsn r.tx r.prev && (inB r.oid 1 31 && (slotB r.bf.v && slotB r.af.v))) := by simp [deedB, RecA.v, k1]
    have e3 : cutA r.lsn r = ⟨r.lsn, r.tx, r.prev, 1, r.oid, r.bf, r.af, 0, [], none, 0⟩ := by simp [cutA, k1]
    rw [e2, e3]
    have hk : r.kind = 1 := by simpa using k1
    exact okR_set _ (by simpa using k1)
  | false =>
    cases k2 : (r.kind == 2) with
    | true =>
      have e2 : deedB r.lsn r.v = linkB r.lsn r.tx r.prev := by simp [deedB, RecA.v, k1, k2]
      have e3 : cutA r.lsn r = recA r.lsn r.tx r.prev 2 := by simp [cutA, k1, k2]
      rw [e2, e3]
      have hk : r.kind = 2 := by simpa using k2
      exact okR_commit _ (by simpa using k2)
    | false =>
      cases k3 : (r.kind == 3) with
      | true =>
        have e2 : deedB r.lsn r.v = linkB r.lsn r.tx r.prev := by simp [deedB, RecA.v, k1, k2, k3]
        have e3 : cutA r.lsn r = recA r.lsn r.tx r.prev 3 := by simp [cutA, k1, k2, k3]
        rw [e2, e3]
        have hk : r.kind = 3 := by simpa using k3
        exact okR_abort _ (by simpa using k3)
      | false =>
        cases k4 : (r.kind == 4) with
        | true =>
          have e2 : deedB r.lsn r.v = (linkB r.lsn r.tx r.prev && (inB r.oid 1 31 && (slotB r.af.v && inB r.next 0 (r.lsn - 1)))) := by simp [deedB, RecA.v, k1, k2, k3, k4]
          have e3 : cutA r.lsn r = ⟨r.lsn, r.tx, r.prev, 4, r.oid, zeroS, r.af, r.next, [], none, 0⟩ := by simp [cutA, k1, k2, k3, k4]
          rw [e2, e3]
          have hk : r.kind = 4 := by simpa using k4
          exact okR_back _ (by simpa using k4)
        | false =>
          cases k5 : (r.kind == 5) with
          | true =>
            have e2 : deedB r.lsn r.v = linkB r.lsn r.tx r.prev := by simp [deedB, RecA.v, k1, k2, k3, k4, k5]
            have e3 : cutA r.lsn r = recA r.lsn r.tx r.prev 5 := by simp [cutA, k1, k2, k3, k4, k5]
            rw [e2, e3]
            have hk : r.kind = 5 := by simpa using k5
            exact okR_end _ (by simpa using k5)
          | false =>
            cases k6 : (r.kind == 6) with
            | true =>
              have e2 : deedB r.lsn r.v = livesB r.lsn r.txs := by simp [deedB, RecA.v, k1, k2, k3, k4, k5, k6]
              have e3 : cutA r.lsn r = ⟨r.lsn, 0, 0, 6, 0, zeroS, zeroS, 0, r.txs, r.aL, r.cL⟩ := by simp [cutA, k1, k2, k3, k4, k5, k6]
              rw [e2, e3]
              have hk : r.kind = 6 := by simpa using k6
              exact okR_check _ (by simpa using k6)
            | false =>
              have e2 : deedB r.lsn r.v = false := by simp [deedB, RecA.v, k1, k2, k3, k4, k5, k6]
              have e3 : okR r.v = false := by simp [okR, RecA.v, k1, k2, k3, k4, k5, k6]
              rw [e2, e3]
              simp
set_option maxHeartbeats 4000000 in
set_option maxRecDepth 100000 in
theorem implRecOk_any (r : RecA) (w : World) (hg : ErrT w) (hr : r.reads w) (hl : r.short 1099511627776) :
    Calls Tryd.prog 17 #[.agg r.cells.toArray] w fun e w' => e = .returned (.bool (okR r.v)) ∧ Below w.heap.size w w' := by
  obtain ⟨W, hW, b0, hbW, hsW⟩ := boxes1 w r.cells 36
  have HZ : Hid (okR r.v = _) := (okR_eq r).symm
  have HX : Hid (∀ u, Below W.heap.size W u → Box u w.heap.size r.cells 36) := fun u hu => b0.below hu b0.lt
  have C1 := deedOf_any r W
  have HD : Hid (∀ u, Below w.heap.size w u → Calls _ _ _ _ _) := fun u hu => deedOk_any r.lsn r u (hg.keep hu) (hr.below hu) hl
  have HM : Hid (∀ u, Below w.heap.size w u → Calls _ _ _ _ _) := fun u hu => sameRec_any (cutA r.lsn r) r u (cutA_reads r.lsn (hr.below hu)) (hr.below hu) (cutA_short r.lsn hl) hl
  generalize okR r.v = R at *
  generalize deedB r.lsn r.v = G at *
  generalize sameR (cutA r.lsn r).v r.v = M at *
  have HN : Hid (∀ u, Calls _ _ _ _ _) := fun u => recOf_any r.lsn r u
  generalize deedV r = D at *
  generalize cutA r.lsn r = cc at *
  simp only [RecA.cells] at *
  have HC : Hid (∀ w', Box w' w.heap.size [.int .i64 r.lsn, .int .i64 r.tx, .int .i64 r.prev, .int .i64 r.kind, .int .i64 r.oid, .bool r.bf.v.has, .int .i64 r.bf.v.o.kind, .slice r.bf.aI r.bf.v.o.ints.length r.bf.cI, .slice r.bf.aR r.bf.v.o.refs.length r.bf.cR, .bool r.af.v.has, .int .i64 r.af.v.o.kind, .slice r.af.aI r.af.v.o.ints.length r.af.cI, .slice r.af.aR r.af.v.o.refs.length r.af.cR, .int .i64 r.next, .slice r.aL r.txs.length r.cL] 36 → w'.cell? ⟨w.heap.size, 0, none⟩ = some (.int .i64 r.lsn) ∧ w'.cell? ⟨w.heap.size, 1, none⟩ = some (.int .i64 r.tx) ∧ w'.cell? ⟨w.heap.size, 2, none⟩ = some (.int .i64 r.prev) ∧ w'.cell? ⟨w.heap.size, 3, none⟩ = some (.int .i64 r.kind) ∧ w'.cell? ⟨w.heap.size, 4, none⟩ = some (.int .i64 r.oid) ∧ w'.cell? ⟨w.heap.size, 5, none⟩ = some (.bool r.bf.v.has) ∧ w'.cell? ⟨w.heap.size, 6, none⟩ = some (.int .i64 r.bf.v.o.kind) ∧ w'.cell? ⟨w.heap.size, 7, none⟩ = some (.slice r.bf.aI r.bf.v.o.ints.length r.bf.cI) ∧ w'.cell? ⟨w.heap.size, 8, none⟩ = some (.slice r.bf.aR r.bf.v.o.refs.length r.bf.cR) ∧ w'.cell? ⟨w.heap.size, 9, none⟩ = some (.bool r.af.v.has) ∧ w'.cell? ⟨w.heap.size, 10, none⟩ = some (.int .i64 r.af.v.o.kind) ∧ w'.cell? ⟨w.heap.size, 11, none⟩ = some (.slice r.af.aI r.af.v.o.ints.length r.af.cI) ∧ w'.cell? ⟨w.heap.size, 12, none⟩ = some (.slice r.af.aR r.af.v.o.refs.length r.af.cR) ∧ w'.cell? ⟨w.heap.size, 13, none⟩ = some (.int .i64 r.next) ∧ w'.cell? ⟨w.heap.size, 14, none⟩ = some (.slice r.aL r.txs.length r.cL)) := fun w' b => fifteen b
  obtain ⟨x0, x1, x2, x3, x4, x5, x6, x7, x8, x9, x10, x11, x12, x13, x14⟩ := HC.out W b0
  clear hsW b0 hg hr hl
  go_enter Tryd.func17, Tryd.ntmps17
  go_wp2_with fail
  rw [hW.out]
  clear hW
  refine C1.mono ?_
  clear C1 x0 x1 x2 x3 x4 x5 x6 x7 x8 x9 x10 x11 x12 x13 x14
  rintro e w1 ⟨rfl, hb1⟩
  have B1 : Below w.heap.size w w1 := hbW.trans (hb1.mono hbW.size)
  have hh := HC.out w1 (HX.out _ hb1)
  by_cases h1 : 1 ≤ r.lsn
  case neg =>
    have HR : Hid (R = false) := by rw [Hid, HZ.out]; simp [inB]; omega
    have hd : decide (1 ≤ r.lsn) = false := by simp; omega
    clear HZ HD HM HN h1
    go_wp2_with fail
    obtain ⟨x0, x1, x2, x3, x4, x5, x6, x7, x8, x9, x10, x11, x12, x13, x14⟩ := hh
    go_quiet (fail)
    go_wp2
    go_ret
    exact ⟨ret_bool HR.out.symm, below_drewN B1 _⟩
  case pos =>
  by_cases h2 : r.lsn ≤ 1000000
  case neg =>
    have HR : Hid (R = false) := by rw [Hid, HZ.out]; simp [inB]; omega
    have hd : decide (1 ≤ r.lsn) = true := by simp; omega
    have hd2 : decide (r.lsn ≤ 1000000) = false := by simp; omega
    clear HZ HD HM HN h1 h2
    go_wp2_with fail
    obtain ⟨x0, x1, x2, x3, x4, x5, x6, x7, x8, x9, x10, x11, x12, x13, x14⟩ := hh
    go_quiet (fail)
    go_wp2
    go_ret
    exact ⟨ret_bool HR.out.symm, below_drewN B1 _⟩
  case pos =>
  have h12 : inB r.lsn 1 1000000 = true := by simp [inB]; omega
  cases G with
  | false =>
    have HR : Hid (R = false) := by rw [Hid, HZ.out]; simp
    clear HZ HM HN h12
    go_wp2_with fail
    refine wp_region_held_drew (S := fun w' => w'.cell? ⟨w.heap.size, 0, none⟩ = some (.int .i64 r.lsn) ∧ w'.cell? ⟨w.heap.size, 1, none⟩ = some (.int .i64 r.tx) ∧ w'.cell? ⟨w.heap.size, 2, none⟩ = some (.int .i64 r.prev) ∧ w'.cell? ⟨w.heap.size, 3, none⟩ = some (.int .i64 r.kind) ∧ w'.cell? ⟨w.heap.size, 4, none⟩ = some (.int .i64 r.oid) ∧ w'.cell? ⟨w.heap.size, 5, none⟩ = some (.bool r.bf.v.has) ∧ w'.cell? ⟨w.heap.size, 6, none⟩ = some (.int .i64 r.bf.v.o.kind) ∧ w'.cell? ⟨w.heap.size, 7, none⟩ = some (.slice r.bf.aI r.bf.v.o.ints.length r.bf.cI) ∧ w'.cell? ⟨w.heap.size, 8, none⟩ = some (.slice r.bf.aR r.bf.v.o.refs.length r.bf.cR) ∧ w'.cell? ⟨w.heap.size, 9, none⟩ = some (.bool r.af.v.has) ∧ w'.cell? ⟨w.heap.size, 10, none⟩ = some (.int .i64 r.af.v.o.kind) ∧ w'.cell? ⟨w.heap.size, 11, none⟩ = some (.slice r.af.aI r.af.v.o.ints.length r.af.cI) ∧ w'.cell? ⟨w.heap.size, 12, none⟩ = some (.slice r.af.aR r.af.v.o.refs.length r.af.cR) ∧ w'.cell? ⟨w.heap.size, 13, none⟩ = some (.int .i64 r.next) ∧ w'.cell? ⟨w.heap.size, 14, none⟩ = some (.slice r.aL r.txs.length r.cL)) (by kernel_rfl) (HC.out _ (HX.out _ hb1.drew)) (fun hHeld => ?_)
    refine wpAnyH_take (i := 0) (v := .pointer (some ⟨w.heap.size, 0, none⟩)) rfl (by kernel_rfl) (by kernel_rfl) (by kernel_rfl) (fun _ _ _ h => h) (Or.inl ⟨by rfl, ?_⟩) hHeld ?_
    · intro w' hSw
      go_simp <;> rfl
    try simp only [Act.put, List.getElem_toArray, List.getElem_cons_zero, List.setIfInBounds_toArray, List.set_cons_zero, List.set_cons_succ]
    refine wpAnyH_take (i := 1) (v := .int .i64 r.lsn) rfl (by kernel_rfl) (by kernel_rfl) (by kernel_rfl) (fun _ _ _ h => h) (Or.inl ⟨by rfl, ?_⟩) hHeld ?_
    · intro w' hSw
      go_simp <;> rfl
    try simp only [Act.put, List.getElem_toArray, List.getElem_cons_zero, List.getElem_cons_succ, List.setIfInBounds_toArray, List.set_cons_zero, List.set_cons_succ]
    refine wpAnyH_take (i := 2) (v := .bool true) rfl (by kernel_rfl) (by kernel_rfl) (by kernel_rfl) (fun _ _ _ h => h) (Or.inl ⟨by rfl, ?_⟩) hHeld ?_
    · intro w' hSw
      go_simp <;> rfl
    try simp only [Act.put, List.getElem_toArray, List.getElem_cons_zero, List.getElem_cons_succ, List.setIfInBounds_toArray, List.set_cons_zero, List.set_cons_succ]
    refine wpAnyH_take (i := 3) (v := .bool true) rfl (by kernel_rfl) (by kernel_rfl) (by kernel_rfl) (fun _ _ _ h => h) (Or.inl ⟨by rfl, ?_⟩) hHeld ?_
    · intro w' hSw
      go_simp <;> rfl
    try simp only [Act.put, List.getElem_toArray, List.getElem_cons_zero, List.getElem_cons_succ, List.setIfInBounds_toArray, List.set_cons_zero, List.set_cons_succ]
    refine wpAnyH_take (i := 4) (v := .pointer (some ⟨w.heap.size, 0, none⟩)) rfl (by kernel_rfl) (by kernel_rfl) (by kernel_rfl) (fun _ _ _ h => h) (Or.inl ⟨by rfl, ?_⟩) hHeld ?_
    · intro w' hSw
      go_simp <;> rfl
    try simp only [Act.put, List.getElem_toArray, List.getElem_cons_zero, List.getElem_cons_succ, List.setIfInBounds_toArray, List.set_cons_zero, List.set_cons_succ]
    refine wpAnyH_take (i := 5) (v := .int .i64 r.lsn) rfl (by kernel_rfl) (by kernel_rfl) (by kernel_rfl) (fun _ _ _ h => h) (Or.inl ⟨by rfl, ?_⟩) hHeld ?_
    · intro w' hSw
      go_simp <;> rfl
    try simp only [Act.put, List.getElem_toArray, List.getElem_cons_zero, List.getElem_cons_succ, List.setIfInBounds_toArray, List.set_cons_zero, List.set_cons_succ]
    refine wpAnyH_take (i := 6) (v := .bool true) rfl (by kernel_rfl) (by kernel_rfl) (by kernel_rfl) (fun _ _ _ h => h) (Or.inl ⟨by rfl, ?_⟩) hHeld ?_
    · intro w' hSw
      go_simp <;> rfl
    try simp only [Act.put, List.getElem_toArray, List.getElem_cons_zero, List.getElem_cons_succ, List.setIfInBounds_toArray, List.set_cons_zero, List.set_cons_succ]
    refine wpAnyH_take (i := 7) (v := .bool true) rfl (by kernel_rfl) (by kernel_rfl) (by kernel_rfl) (fun _ _ _ h => h) (Or.inl ⟨by rfl, ?_⟩) hHeld ?_
    · intro w' hSw
      go_simp <;> rfl
    try simp only [Act.put, List.getElem_toArray, List.getElem_cons_zero, List.getElem_cons_succ, List.setIfInBounds_toArray, List.set_cons_zero, List.set_cons_succ]
    refine wpAnyH_take (i := 8) (v := .bool true) rfl (by kernel_rfl) (by kernel_rfl) (by kernel_rfl) (fun _ _ _ h => h) (Or.inl ⟨by rfl, ?_⟩) hHeld ?_
    · intro w' hSw
      go_simp <;> rfl
    try simp only [Act.put, List.getElem_toArray, List.getElem_cons_zero, List.getElem_cons_succ, List.setIfInBounds_toArray, List.set_cons_zero, List.set_cons_succ]
    refine wpAnyH_take (i := 9) (v := .pointer (some ⟨w.heap.size, 0, none⟩)) rfl (by kernel_rfl) (by kernel_rfl) (by kernel_rfl) (fun _ _ _ h => h) (Or.inl ⟨by rfl, ?_⟩) hHeld ?_
    · intro w' hSw
      go_simp <;> rfl
    try simp only [Act.put, List.getElem_toArray, List.getElem_cons_zero, List.getElem_cons_succ, List.setIfInBounds_toArray, List.set_cons_zero, List.set_cons_succ]
    refine wpAnyH_take (i := 10) (v := .int .i64 r.lsn) rfl (by kernel_rfl) (by kernel_rfl) (by kernel_rfl) (fun _ _ _ h => h) (Or.inl ⟨by rfl, ?_⟩) hHeld ?_
    · intro w' hSw
      go_simp <;> rfl
    try simp only [Act.put, List.getElem_toArray, List.getElem_cons_zero, List.getElem_cons_succ, List.setIfInBounds_toArray, List.set_cons_zero, List.set_cons_succ]
    refine wpAnyH_take (i := 11) (v := D) rfl (by kernel_rfl) (by kernel_rfl) (by kernel_rfl) (fun _ _ _ h => h) (Or.inl ⟨by rfl, ?_⟩) hHeld ?_
    · intro w' hSw
      go_simp <;> rfl
    try simp only [Act.put, List.getElem_toArray, List.getElem_cons_zero, List.getElem_cons_succ, List.setIfInBounds_toArray, List.set_cons_zero, List.set_cons_succ]
    refine wpAnyH_ready (rs := [12]) (by kernel_rfl) (by simp) ?_
    refine AllReadyH.cons rfl (fun K hK => ?_) AllReadyH.nil
    go_simp
    refine (HD.out _ B1.drew).mono ?_
    rintro e u2 ⟨rfl, hbu2⟩
    have hBu2 : Below W.heap.size W u2 := (hb1.drew).trans (hbu2.mono (hb1.drew).size)
    refine hK.out _ _ (HC.out _ (HX.out _ hBu2)) (fun hHeld => ?_)
    clear hK K
    try simp only [Act.put, List.getElem_toArray, List.getElem_cons_zero, List.getElem_cons_succ, List.setIfInBounds_toArray, List.set_cons_zero, List.set_cons_succ]
    refine wpAnyH_take (i := 13) (v := .bool false) rfl (by kernel_rfl) (by kernel_rfl) (by kernel_rfl) (fun _ _ _ h => h) (Or.inl ⟨by rfl, ?_⟩) hHeld ?_
    · intro w' hSw
      go_simp <;> rfl
    try simp only [Act.put, List.getElem_toArray, List.getElem_cons_zero, List.getElem_cons_succ, List.setIfInBounds_toArray, List.set_cons_zero, List.set_cons_succ]
    refine wpAnyH_take (i := 14) (v := .bool false) rfl (by kernel_rfl) (by kernel_rfl) (by kernel_rfl) (fun _ _ _ h => h) (Or.inl ⟨by rfl, ?_⟩) hHeld ?_
    · intro w' hSw
      go_simp <;> rfl
    try simp only [Act.put, List.getElem_toArray, List.getElem_cons_zero, List.getElem_cons_succ, List.setIfInBounds_toArray, List.set_cons_zero, List.set_cons_succ]
    refine wpAnyH_take (i := 15) (v := undef) rfl (by kernel_rfl) (by kernel_rfl) (by kernel_rfl) (fun _ _ _ h => h) (Or.inr ⟨by rfl, rfl⟩) hHeld ?_
    try simp only [Act.put, List.getElem_toArray, List.getElem_cons_zero, List.getElem_cons_succ, List.setIfInBounds_toArray, List.set_cons_zero, List.set_cons_succ]
    refine wpAnyH_take (i := 16) (v := undef) rfl (by kernel_rfl) (by kernel_rfl) (by kernel_rfl) (fun _ _ _ h => h) (Or.inr ⟨by rfl, rfl⟩) hHeld ?_
    try simp only [Act.put, List.getElem_toArray, List.getElem_cons_zero, List.getElem_cons_succ, List.setIfInBounds_toArray, List.set_cons_zero, List.set_cons_succ]
    refine wpAnyH_take (i := 17) (v := undef) rfl (by kernel_rfl) (by kernel_rfl) (by kernel_rfl) (fun _ _ _ h => h) (Or.inr ⟨by rfl, rfl⟩) hHeld ?_
    try simp only [Act.put, List.getElem_toArray, List.getElem_cons_zero, List.getElem_cons_succ, List.setIfInBounds_toArray, List.set_cons_zero, List.set_cons_succ]
    refine wpAnyH_take (i := 18) (v := undef) rfl (by kernel_rfl) (by kernel_rfl) (by kernel_rfl) (fun _ _ _ h => h) (Or.inr ⟨by rfl, rfl⟩) hHeld ?_
    try simp only [Act.put, List.getElem_toArray, List.getElem_cons_zero, List.getElem_cons_succ, List.setIfInBounds_toArray, List.set_cons_zero, List.set_cons_succ]
    refine wpAnyH_take (i := 19) (v := undef) rfl (by kernel_rfl) (by kernel_rfl) (by kernel_rfl) (fun _ _ _ h => h) (Or.inr ⟨by rfl, rfl⟩) hHeld ?_
    try simp only [Act.put, List.getElem_toArray, List.getElem_cons_zero, List.getElem_cons_succ, List.setIfInBounds_toArray, List.set_cons_zero, List.set_cons_succ]
    refine wpAnyH_take (i := 20) (v := undef) rfl (by kernel_rfl) (by kernel_rfl) (by kernel_rfl) (fun _ _ _ h => h) (Or.inr ⟨by rfl, rfl⟩) hHeld ?_
    try simp only [Act.put, List.getElem_toArray, List.getElem_cons_zero, List.getElem_cons_succ, List.setIfInBounds_toArray, List.set_cons_zero, List.set_cons_succ]
    refine wpAnyH_take (i := 21) (v := .bool false) rfl (by kernel_rfl) (by kernel_rfl) (by kernel_rfl) (fun _ _ _ h => h) (Or.inl ⟨by rfl, ?_⟩) hHeld ?_
    · intro w' hSw
      go_simp <;> rfl
    try simp only [Act.put, List.getElem_toArray, List.getElem_cons_zero, List.getElem_cons_succ, List.setIfInBounds_toArray, List.set_cons_zero, List.set_cons_succ]
    refine wpAnyH_take (i := 22) (v := .bool false) rfl (by kernel_rfl) (by kernel_rfl) (by kernel_rfl) (fun _ _ _ h => h) (Or.inl ⟨by rfl, ?_⟩) hHeld ?_
    · intro w' hSw
      go_simp <;> rfl
    try simp only [Act.put, List.getElem_toArray, List.getElem_cons_zero, List.getElem_cons_succ, List.setIfInBounds_toArray, List.set_cons_zero, List.set_cons_succ]
    refine wpAnyH_done (by kernel_rfl) ?_ _
    go_wp2
    go_ret
    exact ⟨ret_bool HR.out.symm, hbW.trans (hBu2.mono hbW.size)⟩
  | true =>
    have HR : Hid (R = M) := by rw [Hid, HZ.out, h12]; simp
    clear HZ h12
    go_wp2_with fail
    refine wp_region_held_drew (S := fun w' => w'.cell? ⟨w.heap.size, 0, none⟩ = some (.int .i64 r.lsn) ∧ w'.cell? ⟨w.heap.size, 1, none⟩ = some (.int .i64 r.tx) ∧ w'.cell? ⟨w.heap.size, 2, none⟩ = some (.int .i64 r.prev) ∧ w'.cell? ⟨w.heap.size, 3, none⟩ = some (.int .i64 r.kind) ∧ w'.cell? ⟨w.heap.size, 4, none⟩ = some (.int .i64 r.oid) ∧ w'.cell? ⟨w.heap.size, 5, none⟩ = some (.bool r.bf.v.has) ∧ w'.cell? ⟨w.heap.size, 6, none⟩ = some (.int .i64 r.bf.v.o.kind) ∧ w'.cell? ⟨w.heap.size, 7, none⟩ = some (.slice r.bf.aI r.bf.v.o.ints.length r.bf.cI) ∧ w'.cell? ⟨w.heap.size, 8, none⟩ = some (.slice r.bf.aR r.bf.v.o.refs.length r.bf.cR) ∧ w'.cell? ⟨w.heap.size, 9, none⟩ = some (.bool r.af.v.has) ∧ w'.cell? ⟨w.heap.size, 10, none⟩ = some (.int .i64 r.af.v.o.kind) ∧ w'.cell? ⟨w.heap.size, 11, none⟩ = some (.slice r.af.aI r.af.v.o.ints.length r.af.cI) ∧ w'.cell? ⟨w.heap.size, 12, none⟩ = some (.slice r.af.aR r.af.v.o.refs.length r.af.cR) ∧ w'.cell? ⟨w.heap.size, 13, none⟩ = some (.int .i64 r.next) ∧ w'.cell? ⟨w.heap.size, 14, none⟩ = some (.slice r.aL r.txs.length r.cL)) (by kernel_rfl) (HC.out _ (HX.out _ hb1.drew)) (fun hHeld => ?_)
    refine wpAnyH_take (i := 0) (v := .pointer (some ⟨w.heap.size, 0, none⟩)) rfl (by kernel_rfl) (by kernel_rfl) (by kernel_rfl) (fun _ _ _ h => h) (Or.inl ⟨by rfl, ?_⟩) hHeld ?_
    · intro w' hSw
      go_simp <;> rfl
    try simp only [Act.put, List.getElem_toArray, List.getElem_cons_zero, List.setIfInBounds_toArray, List.set_cons_zero, List.set_cons_succ]
    refine wpAnyH_take (i := 1) (v := .int .i64 r.lsn) rfl (by kernel_rfl) (by kernel_rfl) (by kernel_rfl) (fun _ _ _ h => h) (Or.inl ⟨by rfl, ?_⟩) hHeld ?_
    · intro w' hSw
      go_simp <;> rfl
    try simp only [Act.put, List.getElem_toArray, List.getElem_cons_zero, List.getElem_cons_succ, List.setIfInBounds_toArray, List.set_cons_zero, List.set_cons_succ]
    refine wpAnyH_take (i := 2) (v := .bool true) rfl (by kernel_rfl) (by kernel_rfl) (by kernel_rfl) (fun _ _ _ h => h) (Or.inl ⟨by rfl, ?_⟩) hHeld ?_
    · intro w' hSw
      go_simp <;> rfl
    try simp only [Act.put, List.getElem_toArray, List.getElem_cons_zero, List.getElem_cons_succ, List.setIfInBounds_toArray, List.set_cons_zero, List.set_cons_succ]
    refine wpAnyH_take (i := 3) (v := .bool true) rfl (by kernel_rfl) (by kernel_rfl) (by kernel_rfl) (fun _ _ _ h => h) (Or.inl ⟨by rfl, ?_⟩) hHeld ?_
    · intro w' hSw
      go_simp <;> rfl
    try simp only [Act.put, List.getElem_toArray, List.getElem_cons_zero, List.getElem_cons_succ, List.setIfInBounds_toArray, List.set_cons_zero, List.set_cons_succ]
    refine wpAnyH_take (i := 4) (v := .pointer (some ⟨w.heap.size, 0, none⟩)) rfl (by kernel_rfl) (by kernel_rfl) (by kernel_rfl) (fun _ _ _ h => h) (Or.inl ⟨by rfl, ?_⟩) hHeld ?_
    · intro w' hSw
      go_simp <;> rfl
    try simp only [Act.put, List.getElem_toArray, List.getElem_cons_zero, List.getElem_cons_succ, List.setIfInBounds_toArray, List.set_cons_zero, List.set_cons_succ]
    refine wpAnyH_take (i := 5) (v := .int .i64 r.lsn) rfl (by kernel_rfl) (by kernel_rfl) (by kernel_rfl) (fun _ _ _ h => h) (Or.inl ⟨by rfl, ?_⟩) hHeld ?_
    · intro w' hSw
      go_simp <;> rfl
    try simp only [Act.put, List.getElem_toArray, List.getElem_cons_zero, List.getElem_cons_succ, List.setIfInBounds_toArray, List.set_cons_zero, List.set_cons_succ]
    refine wpAnyH_take (i := 6) (v := .bool true) rfl (by kernel_rfl) (by kernel_rfl) (by kernel_rfl) (fun _ _ _ h => h) (Or.inl ⟨by rfl, ?_⟩) hHeld ?_
    · intro w' hSw
      go_simp <;> rfl
    try simp only [Act.put, List.getElem_toArray, List.getElem_cons_zero, List.getElem_cons_succ, List.setIfInBounds_toArray, List.set_cons_zero, List.set_cons_succ]
    refine wpAnyH_take (i := 7) (v := .bool true) rfl (by kernel_rfl) (by kernel_rfl) (by kernel_rfl) (fun _ _ _ h => h) (Or.inl ⟨by rfl, ?_⟩) hHeld ?_
    · intro w' hSw
      go_simp <;> rfl
    try simp only [Act.put, List.getElem_toArray, List.getElem_cons_zero, List.getElem_cons_succ, List.setIfInBounds_toArray, List.set_cons_zero, List.set_cons_succ]
    refine wpAnyH_take (i := 8) (v := .bool true) rfl (by kernel_rfl) (by kernel_rfl) (by kernel_rfl) (fun _ _ _ h => h) (Or.inl ⟨by rfl, ?_⟩) hHeld ?_
    · intro w' hSw
      go_simp <;> rfl
    try simp only [Act.put, List.getElem_toArray, List.getElem_cons_zero, List.getElem_cons_succ, List.setIfInBounds_toArray, List.set_cons_zero, List.set_cons_succ]
    refine wpAnyH_take (i := 9) (v := .pointer (some ⟨w.heap.size, 0, none⟩)) rfl (by kernel_rfl) (by kernel_rfl) (by kernel_rfl) (fun _ _ _ h => h) (Or.inl ⟨by rfl, ?_⟩) hHeld ?_
    · intro w' hSw
      go_simp <;> rfl
    try simp only [Act.put, List.getElem_toArray, List.getElem_cons_zero, List.getElem_cons_succ, List.setIfInBounds_toArray, List.set_cons_zero, List.set_cons_succ]
    refine wpAnyH_take (i := 10) (v := .int .i64 r.lsn) rfl (by kernel_rfl) (by kernel_rfl) (by kernel_rfl) (fun _ _ _ h => h) (Or.inl ⟨by rfl, ?_⟩) hHeld ?_
    · intro w' hSw
      go_simp <;> rfl
    try simp only [Act.put, List.getElem_toArray, List.getElem_cons_zero, List.getElem_cons_succ, List.setIfInBounds_toArray, List.set_cons_zero, List.set_cons_succ]
    refine wpAnyH_take (i := 11) (v := D) rfl (by kernel_rfl) (by kernel_rfl) (by kernel_rfl) (fun _ _ _ h => h) (Or.inl ⟨by rfl, ?_⟩) hHeld ?_
    · intro w' hSw
      go_simp <;> rfl
    try simp only [Act.put, List.getElem_toArray, List.getElem_cons_zero, List.getElem_cons_succ, List.setIfInBounds_toArray, List.set_cons_zero, List.set_cons_succ]
    refine wpAnyH_ready (rs := [12]) (by kernel_rfl) (by simp) ?_
    refine AllReadyH.cons rfl (fun K hK => ?_) AllReadyH.nil
    go_simp
    refine (HD.out _ B1.drew).mono ?_
    rintro e u2 ⟨rfl, hbu2⟩
    have hBu2 : Below W.heap.size W u2 := (hb1.drew).trans (hbu2.mono (hb1.drew).size)
    refine hK.out _ _ (HC.out _ (HX.out _ hBu2)) (fun hHeld => ?_)
    clear hK K
    try simp only [Act.put, List.getElem_toArray, List.getElem_cons_zero, List.getElem_cons_succ, List.setIfInBounds_toArray, List.set_cons_zero, List.set_cons_succ]
    refine wpAnyH_take (i := 13) (v := .bool true) rfl (by kernel_rfl) (by kernel_rfl) (by kernel_rfl) (fun _ _ _ h => h) (Or.inl ⟨by rfl, ?_⟩) hHeld ?_
    · intro w' hSw
      go_simp <;> rfl
    try simp only [Act.put, List.getElem_toArray, List.getElem_cons_zero, List.getElem_cons_succ, List.setIfInBounds_toArray, List.set_cons_zero, List.set_cons_succ]
    refine wpAnyH_take (i := 14) (v := .bool true) rfl (by kernel_rfl) (by kernel_rfl) (by kernel_rfl) (fun _ _ _ h => h) (Or.inl ⟨by rfl, ?_⟩) hHeld ?_
    · intro w' hSw
      go_simp <;> rfl
    try simp only [Act.put, List.getElem_toArray, List.getElem_cons_zero, List.getElem_cons_succ, List.setIfInBounds_toArray, List.set_cons_zero, List.set_cons_succ]
    refine wpAnyH_take (i := 15) (v := .pointer (some ⟨w.heap.size, 0, none⟩)) rfl (by kernel_rfl) (by kernel_rfl) (by kernel_rfl) (fun _ _ _ h => h) (Or.inl ⟨by rfl, ?_⟩) hHeld ?_
    · intro w' hSw
      go_simp <;> rfl
    try simp only [Act.put, List.getElem_toArray, List.getElem_cons_zero, List.getElem_cons_succ, List.setIfInBounds_toArray, List.set_cons_zero, List.set_cons_succ]
    refine wpAnyH_take (i := 16) (v := .int .i64 r.lsn) rfl (by kernel_rfl) (by kernel_rfl) (by kernel_rfl) (fun _ _ _ h => h) (Or.inl ⟨by rfl, ?_⟩) hHeld ?_
    · intro w' hSw
      go_simp <;> rfl
    try simp only [Act.put, List.getElem_toArray, List.getElem_cons_zero, List.getElem_cons_succ, List.setIfInBounds_toArray, List.set_cons_zero, List.set_cons_succ]
    refine wpAnyH_take (i := 17) (v := D) rfl (by kernel_rfl) (by kernel_rfl) (by kernel_rfl) (fun _ _ _ h => h) (Or.inl ⟨by rfl, ?_⟩) hHeld ?_
    · intro w' hSw
      go_simp <;> rfl
    try simp only [Act.put, List.getElem_toArray, List.getElem_cons_zero, List.getElem_cons_succ, List.setIfInBounds_toArray, List.set_cons_zero, List.set_cons_succ]
    refine wpAnyH_take (i := 19) (v := .agg #[.int .i64 r.lsn, .int .i64 r.tx, .int .i64 r.prev, .int .i64 r.kind, .int .i64 r.oid, .bool r.bf.v.has, .int .i64 r.bf.v.o.kind, .slice r.bf.aI r.bf.v.o.ints.length r.bf.cI, .slice r.bf.aR r.bf.v.o.refs.length r.bf.cR, .bool r.af.v.has, .int .i64 r.af.v.o.kind, .slice r.af.aI r.af.v.o.ints.length r.af.cI, .slice r.af.aR r.af.v.o.refs.length r.af.cR, .int .i64 r.next, .slice r.aL r.txs.length r.cL]) rfl (by kernel_rfl) (by kernel_rfl) (by kernel_rfl) (fun _ _ _ h => h) (Or.inl ⟨by rfl, ?_⟩) hHeld ?_
    · intro w' hSw
      go_simp <;> rfl
    try simp only [Act.put, List.getElem_toArray, List.getElem_cons_zero, List.getElem_cons_succ, List.setIfInBounds_toArray, List.set_cons_zero, List.set_cons_succ]
    refine wpAnyH_ready (rs := [18]) (by kernel_rfl) (by simp) ?_
    refine AllReadyH.cons rfl (fun K hK => ?_) AllReadyH.nil
    go_simp
    refine (HN.out _).mono ?_
    rintro e u3 ⟨rfl, hbu3⟩
    have hBu3 : Below W.heap.size W u3 := (hBu2).trans (hbu3.mono (hBu2).size)
    refine hK.out _ _ (HC.out _ (HX.out _ hBu3)) (fun hHeld => ?_)
    clear hK K
    try simp only [Act.put, List.getElem_toArray, List.getElem_cons_zero, List.getElem_cons_succ, List.setIfInBounds_toArray, List.set_cons_zero, List.set_cons_succ]
    refine wpAnyH_ready (rs := [20]) (by kernel_rfl) (by simp) ?_
    refine AllReadyH.cons rfl (fun K hK => ?_) AllReadyH.nil
    go_simp
    refine (HM.out _ (hbW.trans (hBu3.mono hbW.size))).mono ?_
    rintro e u4 ⟨rfl, hbu4⟩
    have hBu4 : Below W.heap.size W u4 := (hBu3).trans (hbu4.mono (hBu3).size)
    refine hK.out _ _ (HC.out _ (HX.out _ hBu4)) (fun hHeld => ?_)
    clear hK K
    try simp only [Act.put, List.getElem_toArray, List.getElem_cons_zero, List.getElem_cons_succ, List.setIfInBounds_toArray, List.set_cons_zero, List.set_cons_succ]
    refine wpAnyH_take (i := 21) (v := .bool M) rfl (by kernel_rfl) (by kernel_rfl) (by kernel_rfl) (fun _ _ _ h => h) (Or.inl ⟨by rfl, ?_⟩) hHeld ?_
    · intro w' hSw
      go_simp <;> rfl
    try simp only [Act.put, List.getElem_toArray, List.getElem_cons_zero, List.getElem_cons_succ, List.setIfInBounds_toArray, List.set_cons_zero, List.set_cons_succ]
    refine wpAnyH_take (i := 22) (v := .bool M) rfl (by kernel_rfl) (by kernel_rfl) (by kernel_rfl) (fun _ _ _ h => h) (Or.inl ⟨by rfl, ?_⟩) hHeld ?_
    · intro w' hSw
      go_simp <;> rfl
    try simp only [Act.put, List.getElem_toArray, List.getElem_cons_zero, List.getElem_cons_succ, List.setIfInBounds_toArray, List.set_cons_zero, List.set_cons_succ]
    refine wpAnyH_done (by kernel_rfl) ?_ _
    go_wp2
    go_ret
    exact ⟨ret_bool HR.out.symm, hbW.trans (hBu4.mono hbW.size)⟩
end Go.Proofs.YtjaojcgfgkppgabDoor

/- The walks of impl.backOf and impl.UndoOf. -/
namespace Go.Proofs.YtjaojcgfgkppgabDoor
open Go.RowKit

set_option maxHeartbeats 4000000 in
set_option maxRecDepth 100000 in
theorem backOf_set (tx prev oid : Int) (b a : SlotA) (p : Int) (w : World) (hb : b.reads w) (hl : b.v.o.ints.length ≤ 1099511627776 ∧ b.v.o.refs.length ≤ 1099511627776) :
    Calls Tryd.prog 19 #[issetDeed (setD tx prev oid b a), .int .i64 p] w fun e w' => ∃ t : SlotA, e = .returned (isbackDeed (backD tx p oid t prev)) ∧ Hid (t.v = b.v) ∧ t.own w' w.heap.size w'.heap.size ∧ Below w.heap.size w w' := by
  obtain ⟨W, hW, b0, hbW, hsW⟩ := boxes1 w [.int .i64 tx, .int .i64 prev, .int .i64 oid, .bool b.v.has, .int .i64 b.v.o.kind, .slice b.aI b.v.o.ints.length b.cI, .slice b.aR b.v.o.refs.length b.cR, .bool a.v.has, .int .i64 a.v.o.kind, .slice a.aI a.v.o.ints.length a.cI, .slice a.aR a.v.o.refs.length a.cR] 71
  simp only [issetDeed, setD]
  have a1 := fun W => yes_setDeed W (.agg #[.int .i64 tx, .int .i64 prev, .int .i64 oid, .bool b.v.has, .int .i64 b.v.o.kind, .slice b.aI b.v.o.ints.length b.cI, .slice b.aR b.v.o.refs.length b.cR, .bool a.v.has, .int .i64 a.v.o.kind, .slice a.aI a.v.o.ints.length a.cI, .slice a.aR a.v.o.refs.length a.cR])
  have HC : Hid (∀ w', Below W.heap.size W w' → w'.cell? ⟨w.heap.size, 0, none⟩ = some (.int .i64 tx) ∧ w'.cell? ⟨w.heap.size, 1, none⟩ = some (.int .i64 prev) ∧ w'.cell? ⟨w.heap.size, 2, none⟩ = some (.int .i64 oid) ∧ w'.cell? ⟨w.heap.size, 3, none⟩ = some (.bool b.v.has) ∧ w'.cell? ⟨w.heap.size, 4, none⟩ = some (.int .i64 b.v.o.kind) ∧ w'.cell? ⟨w.heap.size, 5, none⟩ = some (.slice b.aI b.v.o.ints.length b.cI) ∧ w'.cell? ⟨w.heap.size, 6, none⟩ = some (.slice b.aR b.v.o.refs.length b.cR) ∧ w'.cell? ⟨w.heap.size, 7, none⟩ = some (.bool a.v.has) ∧ w'.cell? ⟨w.heap.size, 8, none⟩ = some (.int .i64 a.v.o.kind) ∧ w'.cell? ⟨w.heap.size, 9, none⟩ = some (.slice a.aI a.v.o.ints.length a.cI) ∧ w'.cell? ⟨w.heap.size, 10, none⟩ = some (.slice a.aR a.v.o.refs.length a.cR)) := fun w' hu => ⟨(b0.below hu b0.lt).cell 0 _ rfl, (b0.below hu b0.lt).cell 1 _ rfl, (b0.below hu b0.lt).cell 2 _ rfl, (b0.below hu b0.lt).cell 3 _ rfl, (b0.below hu b0.lt).cell 4 _ rfl, (b0.below hu b0.lt).cell 5 _ rfl, (b0.below hu b0.lt).cell 6 _ rfl, (b0.below hu b0.lt).cell 7 _ rfl, (b0.below hu b0.lt).cell 8 _ rfl, (b0.below hu b0.lt).cell 9 _ rfl, (b0.below hu b0.lt).cell 10 _ rfl⟩
  have hb' := ReadsO.below hb hbW
  clear hsW b0
  go_enter Tryd.func19, Tryd.ntmps19
  go_wp2_with fail
  rw [hW.out]
  clear hW a1
  refine wp_region_held_drew (S := fun w' => w'.cell? ⟨w.heap.size, 0, none⟩ = some (.int .i64 tx) ∧ w'.cell? ⟨w.heap.size, 1, none⟩ = some (.int .i64 prev) ∧ w'.cell? ⟨w.heap.size, 2, none⟩ = some (.int .i64 oid) ∧ w'.cell? ⟨w.heap.size, 3, none⟩ = some (.bool b.v.has) ∧ w'.cell? ⟨w.heap.size, 4, none⟩ = some (.int .i64 b.v.o.kind) ∧ w'.cell? ⟨w.heap.size, 5, none⟩ = some (.slice b.aI b.v.o.ints.length b.cI) ∧ w'.cell? ⟨w.heap.size, 6, none⟩ = some (.slice b.aR b.v.o.refs.length b.cR) ∧ w'.cell? ⟨w.heap.size, 7, none⟩ = some (.bool a.v.has) ∧ w'.cell? ⟨w.heap.size, 8, none⟩ = some (.int .i64 a.v.o.kind) ∧ w'.cell? ⟨w.heap.size, 9, none⟩ = some (.slice a.aI a.v.o.ints.length a.cI) ∧ w'.cell? ⟨w.heap.size, 10, none⟩ = some (.slice a.aR a.v.o.refs.length a.cR)) (by kernel_rfl) (HC.out _ (Below.refl _ _).drew) (fun hHeld => ?_)
  refine wpAnyH_take (i := 0) (v := .pointer (some ⟨w.heap.size, 0, none⟩)) rfl (by kernel_rfl) (by kernel_rfl) (by kernel_rfl) (fun _ _ _ h => h) (Or.inl ⟨by rfl, ?_⟩) hHeld ?_
  · intro w' hSw
    go_simp <;> rfl
  try simp only [Act.put, List.getElem_toArray, List.getElem_cons_zero, List.setIfInBounds_toArray, List.set_cons_zero, List.set_cons_succ]
  refine wpAnyH_take (i := 1) (v := .pointer (some ⟨w.heap.size, 0, none⟩)) rfl (by kernel_rfl) (by kernel_rfl) (by kernel_rfl) (fun _ _ _ h => h) (Or.inl ⟨by rfl, ?_⟩) hHeld ?_
  · intro w' hSw
    go_simp <;> rfl
  try simp only [Act.put, List.getElem_toArray, List.getElem_cons_zero, List.getElem_cons_succ, List.setIfInBounds_toArray, List.set_cons_zero, List.set_cons_succ]
  refine wpAnyH_take (i := 2) (v := .int .i64 tx) rfl (by kernel_rfl) (by kernel_rfl) (by kernel_rfl) (fun _ _ _ h => h) (Or.inl ⟨by rfl, ?_⟩) hHeld ?_
  · intro w' hSw
    go_simp <;> rfl
  try simp only [Act.put, List.getElem_toArray, List.getElem_cons_zero, List.getElem_cons_succ, List.setIfInBounds_toArray, List.set_cons_zero, List.set_cons_succ]
  refine wpAnyH_take (i := 3) (v := .int .i64 p) rfl (by kernel_rfl) (by kernel_rfl) (by kernel_rfl) (fun _ _ _ h => h) (Or.inl ⟨by rfl, ?_⟩) hHeld ?_
  · intro w' hSw
    go_simp <;> rfl
  try simp only [Act.put, List.getElem_toArray, List.getElem_cons_zero, List.getElem_cons_succ, List.setIfInBounds_toArray, List.set_cons_zero, List.set_cons_succ]
  refine wpAnyH_take (i := 4) (v := .agg #[.int .i64 tx, .int .i64 p]) rfl (by kernel_rfl) (by kernel_rfl) (by kernel_rfl) (fun _ _ _ h => h) (Or.inl ⟨by rfl, ?_⟩) hHeld ?_
  · intro w' hSw
    go_simp <;> rfl
  try simp only [Act.put, List.getElem_toArray, List.getElem_cons_zero, List.getElem_cons_succ, List.setIfInBounds_toArray, List.set_cons_zero, List.set_cons_succ]
  refine wpAnyH_take (i := 5) (v := .pointer (some ⟨w.heap.size, 2, none⟩)) rfl (by kernel_rfl) (by kernel_rfl) (by kernel_rfl) (fun _ _ _ h => h) (Or.inl ⟨by rfl, ?_⟩) hHeld ?_
  · intro w' hSw
    go_simp <;> rfl
  try simp only [Act.put, List.getElem_toArray, List.getElem_cons_zero, List.getElem_cons_succ, List.setIfInBounds_toArray, List.set_cons_zero, List.set_cons_succ]
  refine wpAnyH_take (i := 6) (v := .int .i64 oid) rfl (by kernel_rfl) (by kernel_rfl) (by kernel_rfl) (fun _ _ _ h => h) (Or.inl ⟨by rfl, ?_⟩) hHeld ?_
  · intro w' hSw
    go_simp <;> rfl
  try simp only [Act.put, List.getElem_toArray, List.getElem_cons_zero, List.getElem_cons_succ, List.setIfInBounds_toArray, List.set_cons_zero, List.set_cons_succ]
  refine wpAnyH_take (i := 7) (v := .pointer (some ⟨w.heap.size, 3, none⟩)) rfl (by kernel_rfl) (by kernel_rfl) (by kernel_rfl) (fun _ _ _ h => h) (Or.inl ⟨by rfl, ?_⟩) hHeld ?_
  · intro w' hSw
    go_simp <;> rfl
  try simp only [Act.put, List.getElem_toArray, List.getElem_cons_zero, List.getElem_cons_succ, List.setIfInBounds_toArray, List.set_cons_zero, List.set_cons_succ]
  refine wpAnyH_take (i := 8) (v := .agg #[.bool b.v.has, .int .i64 b.v.o.kind, .slice b.aI b.v.o.ints.length b.cI, .slice b.aR b.v.o.refs.length b.cR]) rfl (by kernel_rfl) (by kernel_rfl) (by kernel_rfl) (fun _ _ _ h => h) (Or.inl ⟨by rfl, ?_⟩) hHeld ?_
  · intro w' hSw
    go_simp <;> rfl
  try simp only [Act.put, List.getElem_toArray, List.getElem_cons_zero, List.getElem_cons_succ, List.setIfInBounds_toArray, List.set_cons_zero, List.set_cons_succ]
  refine wpAnyH_take (i := 10) (v := .pointer (some ⟨w.heap.size, 0, none⟩)) rfl (by kernel_rfl) (by kernel_rfl) (by kernel_rfl) (fun _ _ _ h => h) (Or.inl ⟨by rfl, ?_⟩) hHeld ?_
  · intro w' hSw
    go_simp <;> rfl
  try simp only [Act.put, List.getElem_toArray, List.getElem_cons_zero, List.getElem_cons_succ, List.setIfInBounds_toArray, List.set_cons_zero, List.set_cons_succ]
  refine wpAnyH_take (i := 11) (v := .pointer (some ⟨w.heap.size, 1, none⟩)) rfl (by kernel_rfl) (by kernel_rfl) (by kernel_rfl) (fun _ _ _ h => h) (Or.inl ⟨by rfl, ?_⟩) hHeld ?_
  · intro w' hSw
    go_simp <;> rfl
  try simp only [Act.put, List.getElem_toArray, List.getElem_cons_zero, List.getElem_cons_succ, List.setIfInBounds_toArray, List.set_cons_zero, List.set_cons_succ]
  refine wpAnyH_take (i := 12) (v := .int .i64 prev) rfl (by kernel_rfl) (by kernel_rfl) (by kernel_rfl) (fun _ _ _ h => h) (Or.inl ⟨by rfl, ?_⟩) hHeld ?_
  · intro w' hSw
    go_simp <;> rfl
  try simp only [Act.put, List.getElem_toArray, List.getElem_cons_zero, List.getElem_cons_succ, List.setIfInBounds_toArray, List.set_cons_zero, List.set_cons_succ]
  refine wpAnyH_ready (rs := [9]) (by kernel_rfl) (by simp) ?_
  refine AllReadyH.cons rfl (fun K hK => ?_) AllReadyH.nil
  go_simp
  refine (copySlot_own b _ (ReadsO.below hb' (Below.refl _ _).drew) hl.1 hl.2).mono ?_
  rintro e u1 ⟨t, rfl, hv, ho, hb1⟩
  have hB1 : Below W.heap.size W u1 := (Below.refl _ _).drew.trans hb1
  have ho' : t.own u1 w.heap.size u1.heap.size := OwnO.widen ho hbW.size (Nat.le_refl _) (Nat.le_refl _)
  refine hK.out _ _ (HC.out _ hB1) (fun hHeld => ?_)
  clear hK K
  try simp only [Act.put, List.getElem_toArray, List.getElem_cons_zero, List.getElem_cons_succ, List.setIfInBounds_toArray, List.set_cons_zero, List.set_cons_succ]
  refine wpAnyH_take (i := 13) (v := .agg #[.int .i64 tx, .int .i64 p, .int .i64 oid, .bool t.v.has, .int .i64 t.v.o.kind, .slice t.aI t.v.o.ints.length t.cI, .slice t.aR t.v.o.refs.length t.cR, .int .i64 prev]) rfl (by kernel_rfl) (by kernel_rfl) (by kernel_rfl) (fun _ _ _ h => h) (Or.inl ⟨by rfl, ?_⟩) hHeld ?_
  · intro w' hSw
    go_simp <;> rfl
  try simp only [Act.put, List.getElem_toArray, List.getElem_cons_zero, List.getElem_cons_succ, List.setIfInBounds_toArray, List.set_cons_zero, List.set_cons_succ]
  refine wpAnyH_take (i := 14) (v := isbackDeed (backD tx p oid t prev)) rfl (by kernel_rfl) (by kernel_rfl) (by kernel_rfl) (fun _ _ _ h => h) (Or.inl ⟨by rfl, ?_⟩) hHeld ?_
  · intro w' hSw
    go_simp <;> rfl
  try simp only [Act.put, List.getElem_toArray, List.getElem_cons_zero, List.getElem_cons_succ, List.setIfInBounds_toArray, List.set_cons_zero, List.set_cons_succ]
  refine wpAnyH_take (i := 15) (v := isbackDeed (backD tx p oid t prev)) rfl (by kernel_rfl) (by kernel_rfl) (by kernel_rfl) (fun _ _ _ h => h) (Or.inl ⟨by rfl, ?_⟩) hHeld ?_
  · intro w' hSw
    go_simp <;> rfl
  try simp only [Act.put, List.getElem_toArray, List.getElem_cons_zero, List.getElem_cons_succ, List.setIfInBounds_toArray, List.set_cons_zero, List.set_cons_succ]
  refine wpAnyH_done (by kernel_rfl) ?_ _
  clear hHeld
  go_wp2
  go_ret
  exact ⟨t, rfl, hv, ho', hbW.trans (hB1.mono hbW.size)⟩

set_option maxHeartbeats 400000 in
set_option maxRecDepth 100000 in
theorem backOf_none (d : Value) (p : Int) (w : World) (h : ∀ W, (Instr.typeAssert d 50 71 true).run Tryd.prog W = .ok (.tuple #[.agg #[.int .i64 0, .int .i64 0, .int .i64 0, .bool false, .int .i64 0, .slice none 0 0, .slice none 0 0, .bool false, .int .i64 0, .slice none 0 0, .slice none 0 0], .bool false]) W) :
    Calls Tryd.prog 19 #[d, .int .i64 p] w fun e w' => e = .returned .nilIface ∧ Below w.heap.size w w' := by
  go_enter Tryd.func19, Tryd.ntmps19
  go_wp2
  go_ret
  exact ⟨rfl, (Below.refl _ _).alloc (Nat.le_refl _) _⟩
theorem backOf_other (r : RecA) (hk : (r.kind == 1) = false) (p : Int) (w : World) : Calls Tryd.prog 19 #[deedV r, .int .i64 p] w fun e w' => e = .returned .nilIface ∧ Below w.heap.size w w' := by
  refine backOf_none _ p w fun W => ?_
  unfold deedV
  rw [if_neg (by rw [hk]; decide)]
  split
  · exact no_setDeed W _ _ (by decide)
  split
  · exact no_setDeed W _ _ (by decide)
  split
  · exact no_setDeed W _ _ (by decide)
  split
  · exact no_setDeed W _ _ (by decide)
  split
  · exact no_setDeed W _ _ (by decide)
  · exact nil_setDeed W
/-- What the landed code has made of it ahead of its last test. -/
def MadeR (r : RecA) (n p : Int) (t : RecA) : Prop := (r.kind = 1 ∧ t.v = backV r.v n p) ∨ (¬ r.kind = 1 ∧ t.v = noR)

set_option maxHeartbeats 4000000 in
set_option maxRecDepth 100000 in
theorem implUndoOf_any (r : RecA) (n p : Int) (w : World) (hg : ErrT w) (hr : r.reads w) (hl : r.short 1099511627776) :
    Calls Tryd.prog 7 #[.agg r.cells.toArray, .int .i64 n, .int .i64 p] w fun e w' => ∃ t : RecA, e = .returned (.agg t.cells.toArray) ∧ Hid (t.v = undoV r.v n p) ∧ t.own w' w.heap.size w'.heap.size ∧ Below w.heap.size w w' := by
  obtain ⟨W, hW, b0, b1, hbW, hsW⟩ := boxes2 w r.cells zeroR.cells 36 36
  have HX : Hid (∀ u, Below W.heap.size W u → u.rangeAt w.heap.size 0 r.cells ∧ Box u (w.heap.size + 1) zeroR.cells 36) := fun u hu => ⟨Box.range [] r.cells [] (by simpa using b0.below hu b0.lt), b1.below hu b1.lt⟩
  have HU1 : Hid (okR r.v = false → undoV r.v n p = noR) := fun h => undoV_bad h
  have HU2 : Hid (∀ t, MadeR r n p t → okR t.v = false → undoV r.v n p = noR) := fun t h h1 => by
    rcases h with ⟨_, e⟩ | ⟨hk, _⟩
    · rw [e] at h1; exact undoV_no h1
    · exact undoV_kind hk
  have HU3 : Hid (okR r.v = true → ∀ t, MadeR r n p t → okR t.v = true → undoV r.v n p = t.v) := fun h0 t h h1 => by
    rcases h with ⟨hk, e⟩ | ⟨_, e⟩
    · rw [e] at h1 ⊢; exact undoV_yes h0 hk h1
    · rw [e, noR_bad] at h1; cases h1
  generalize undoV r.v n p = R at *
  have C1 := implRecOk_any r W (hg.keep hbW) (hr.below hbW) hl
  have hlt := b1.lt
  clear b0 b1 hsW
  simp only [show zeroR.cells = [.int .i64 0, .int .i64 0, .int .i64 0, .int .i64 0, .int .i64 0, .bool false, .int .i64 0, .slice none 0 0, .slice none 0 0, .bool false, .int .i64 0, .slice none 0 0, .slice none 0 0, .int .i64 0, .slice none 0 0] from rfl] at hW
  go_enter Tryd.func7, Tryd.ntmps7
  go_wp2_with (first | (guard_target = wpList _ _ _ (Oper.mk (some 8) _ _ _ _ _ :: _) _ _; refine wpList_load_mid rfl 36 (.tmp 3) rfl w.heap.size 0 rfl r.cells _ (by rw [hW.out]; exact (HX.out _ (Below.refl _ _)).1) Tryd.underlying36 rfl (rec_info _) ?_) | fail)
  rw [hW.out]
  clear hW
  refine C1.mono ?_
  clear C1
  rintro e w1 ⟨rfl, hb1⟩
  have B1 : Below w.heap.size w w1 := hbW.trans (hb1.mono hbW.size)
  have hs1 := hb1.size
  cases hok : okR r.v with
  | false =>
    have HR : Hid (zeroR.v = R) := (HU1.out hok).symm
    obtain ⟨WF, hWF, hwF, hsF, HTF, HLF, _⟩ := rec_out zeroR _ rfl (HX.out _ hb1).2
    have HE : Hid (zeroR.own WF w.heap.size WF.heap.size ∧ Below w.heap.size w WF) := ⟨own_zeroR _ _ _ (Nat.le_refl _), B1.trans (hwF.below (by omega) (by omega))⟩
    clear hwF hsF HU1 HU2 HU3 hok
    go_wp2_with (first | (guard_target = wpList _ _ _ (Oper.mk none (Op.store _ (Operand.tmp 6) _) _ _ _ _ :: _) _ _; refine wpList_store_mid rfl 36 (.tmp 6) (.tmp 11) rfl (w.heap.size + 1) 0 zeroR.cells.toArray rfl rfl HTF.out (by rw [List.size_toArray]; exact rec_info _) (rec_one _) ?_) | fail)
    rw [hWF.out]
    exact bodyPost_ret (v := .agg zeroR.cells.toArray) (results_one Tryd.results7 rfl HLF.out) rfl ⟨zeroR, rfl, HR, HE.out.1, HE.out.2⟩
  | true =>
    have r1 := (HX.out _ hb1).1
    go_wp2_with (first | (guard_target = wpList _ _ _ (Oper.mk (some 13) _ _ _ _ _ :: _) _ _; refine wpList_load_mid rfl 36 (.tmp 3) rfl w.heap.size 0 rfl r.cells _ r1 Tryd.underlying36 rfl (rec_info _) ?_) | fail)
    clear r1
    refine (deedOf_any r w1).mono ?_
    rintro e w2 ⟨rfl, hb2⟩
    have B2 : Below w.heap.size w w2 := B1.trans (hb2.mono B1.size)
    have M2 : Below W.heap.size W w2 := hb1.trans (hb2.mono hb1.size)
    have HBK : Calls Tryd.prog 19 #[deedV r, .int .i64 p] w2 fun e w3 => Below w2.heap.size w2 w3 ∧ ∃ d, e = .returned d ∧ Hid (Calls Tryd.prog 18 #[.int .i64 n, d] w3 fun e w4 => ∃ t : RecA, e = .returned (.agg t.cells.toArray) ∧ Hid (MadeR r n p t ∧ t.short 1099511627776) ∧ t.own w4 w2.heap.size w4.heap.size ∧ Below w3.heap.size w3 w4) := by
      cases hk : (r.kind == 1) with
      | true =>
        have e1 : deedV r = issetDeed (setD r.tx r.prev r.oid r.bf r.af) := by simp [deedV, hk]
        rw [e1]
        refine (backOf_set r.tx r.prev r.oid r.bf r.af p w2 (ReadsO.below hr.bf B2) hl.bf).mono ?_
        rintro e w3 ⟨t, rfl, hv, ho, hb3⟩
        refine ⟨hb3, _, rfl, ?_⟩
        refine (recOf_back n r.tx p r.oid t r.prev w3).mono ?_
        rintro e w4 ⟨rfl, hb4⟩
        have ho4 : t.own w4 w2.heap.size w4.heap.size := OwnO.widen (OwnO.below ho hb4) (Nat.le_refl _) hb4.size (Nat.le_refl _)
        refine ⟨backA n r.tx p r.oid t r.prev, rfl, ⟨.inl ⟨by simpa using hk, ?_⟩, ?_⟩, own_backA _ _ _ _ _ ho4 (Nat.le_refl _), hb4⟩
        · simp only [RecA.v, backA, backV, hv.out]; rfl
        · exact ⟨⟨Nat.zero_le _, Nat.zero_le _⟩, by rw [show (backA n r.tx p r.oid t r.prev).af = t from rfl, hv.out]; exact hl.bf, Nat.zero_le _⟩
      | false =>
        refine (backOf_other r hk p w2).mono ?_
        rintro e w3 ⟨rfl, hb3⟩
        refine ⟨hb3, _, rfl, ?_⟩
        refine (recOf_nil n w3).mono ?_
        rintro e w4 ⟨rfl, hb4⟩
        exact ⟨zeroR, rfl, ⟨.inr ⟨by simpa using hk, rfl⟩, ⟨⟨Nat.zero_le _, Nat.zero_le _⟩, ⟨Nat.zero_le _, Nat.zero_le _⟩, Nat.zero_le _⟩⟩, own_zeroR _ _ _ (Nat.le_refl _), hb4⟩
    generalize deedV r = D at *
    go_wp2_with fail
    refine HBK.mono ?_
    clear HBK
    rintro e w3 ⟨hb3, d, rfl, HRC⟩
    go_wp2_with fail
    refine HRC.out.mono ?_
    clear HRC
    rintro e w4 ⟨t, rfl, HM, ho, hb4⟩
    have N4 : Below w2.heap.size w2 w4 := hb3.trans (hb4.mono hb3.size)
    have M4 : Below W.heap.size W w4 := M2.trans (N4.mono M2.size)
    have B4 : Below w.heap.size w w4 := B2.trans (N4.mono B2.size)
    obtain ⟨W5, hW5, b5, hb5, hs5⟩ := boxes1 w4 t.cells 36
    have hz4 := hb5.size
    have ho5 := ho.below hb5
    have B5 : Below w.heap.size w W5 := B4.trans (hb5.mono B4.size)
    have M5 : Below W.heap.size W W5 := M4.trans (hb5.mono M4.size)
    have C6 := implRecOk_any t W5 (hg.keep B5) ho5.reads HM.out.2
    have HR5 : Hid (∀ u, Below W5.heap.size W5 u → u.rangeAt w4.heap.size 0 t.cells) := fun u hu => Box.range [] t.cells [] (by simpa using b5.below hu b5.lt)
    have r5 := HR5.out _ (Below.refl _ _)
    have hlt5 := b5.lt
    have hB2s := B2.size
    have hM2s := M2.size
    have hN4s := N4.size
    clear b5 hs5 hb3 hb4 hb2 N4 M4 B4 M2
    have HTC : Hid (t.cells = _) := rfl
    simp only [RecA.cells] at hW5
    simp only [RecA.cells]
    go_wp2_with (first | (guard_target = wpList _ _ _ (Oper.mk (some 18) _ _ _ _ _ :: _) _ _; refine wpList_load_mid rfl 36 (.tmp 7) rfl w4.heap.size 0 rfl t.cells _ (by rw [hW5.out]; exact r5) Tryd.underlying36 rfl (rec_info _) ?_) | fail)
    rw [hW5.out]
    clear hW5 r5
    refine C6.mono ?_
    clear C6
    rintro e w6 ⟨rfl, hb6⟩
    have M6 : Below W.heap.size W w6 := M5.trans (hb6.mono M5.size)
    have B6 : Below w.heap.size w w6 := B5.trans (hb6.mono B5.size)
    have hs6 := hb6.size
    cases hok6 : okR t.v with
    | false =>
      have HR : Hid (zeroR.v = R) := (HU2.out t HM.out.1 hok6).symm
      obtain ⟨WF, hWF, hwF, hsF, HTF, HLF, _⟩ := rec_out zeroR _ rfl (HX.out _ M6).2
      have HE : Hid (zeroR.own WF w.heap.size WF.heap.size ∧ Below w.heap.size w WF) := ⟨own_zeroR _ _ _ (Nat.le_refl _), B6.trans (hwF.below (by omega) (by omega))⟩
      clear hwF hsF HU1 HU2 HU3 hok hok6
      go_wp2_with (first | (guard_target = wpList _ _ _ (Oper.mk none (Op.store _ (Operand.tmp 6) _) _ _ _ _ :: _) _ _; refine wpList_store_mid rfl 36 (.tmp 6) (.tmp 21) rfl (w.heap.size + 1) 0 zeroR.cells.toArray rfl rfl HTF.out (by rw [List.size_toArray]; exact rec_info _) (rec_one _) ?_) | fail)
      rw [hWF.out]
      exact bodyPost_ret (v := .agg zeroR.cells.toArray) (results_one Tryd.results7 rfl HLF.out) rfl ⟨zeroR, rfl, HR, HE.out.1, HE.out.2⟩
    | true =>
      have HR : Hid (t.v = R) := (HU3.out hok t HM.out.1 hok6).symm
      obtain ⟨WF, hWF, hwF, hsF, HTF, HLF, _⟩ := rec_out t _ rfl (HX.out _ M6).2
      have oF : t.own WF w.heap.size WF.heap.size := ((ho5.below hb6).within hwF (.inr (by omega))).widen (by omega) (by omega) (Nat.le_refl _)
      have HE : Hid (t.own WF w.heap.size WF.heap.size ∧ Below w.heap.size w WF) := ⟨oF, B6.trans (hwF.below (by omega) (by omega))⟩
      have r6 := HR5.out _ hb6
      clear hwF hsF HU1 HU2 HU3 hok hok6 oF
      go_wp2_with (first | (guard_target = wpList _ _ _ (Oper.mk (some 22) _ _ _ _ _ :: _) _ _; refine wpList_load_mid rfl 36 (.tmp 7) rfl w4.heap.size 0 rfl t.cells _ r6 Tryd.underlying36 rfl (rec_info _) ?_) | (guard_target = wpList _ _ _ (Oper.mk none (Op.store _ (Operand.tmp 6) _) _ _ _ _ :: _) _ _; refine wpList_store_mid rfl 36 (.tmp 6) (.tmp 22) rfl (w.heap.size + 1) 0 t.cells.toArray rfl rfl HTF.out (by rw [List.size_toArray]; exact rec_info _) (rec_one _) ?_) | fail)
      rw [hWF.out]
      exact bodyPost_ret (v := .agg t.cells.toArray) (results_one Tryd.results7 rfl HLF.out) rfl ⟨t, rfl, HR, HE.out.1, HE.out.2⟩
end Go.Proofs.YtjaojcgfgkppgabDoor

/- The walk of spec.UndoOf. -/
namespace Go.Proofs.YtjaojcgfgkppgabDoor
open Go.RowKit

set_option maxHeartbeats 4000000 in
set_option maxRecDepth 100000 in
theorem specUndoOf_any (r : RecA) (n p : Int) (w : World) (hr : r.reads w) (hl : r.short 1099511627776) :
    Calls Tryd.prog 5 #[.agg r.cells.toArray, .int .i64 n, .int .i64 p] w fun e w' => ∃ t : RecA, e = .returned (.agg t.cells.toArray) ∧ Hid (t.v = undoV r.v n p) ∧ t.own w' w.heap.size w'.heap.size ∧ Below w.heap.size w w' := by
  obtain ⟨W, hW, b0, b1, hbW, hsW⟩ := boxes2 w r.cells zeroR.cells 36 36
  have HX : Hid (∀ u, Below W.heap.size W u → Box u w.heap.size r.cells 36) := fun u hu => b0.below hu b0.lt
  have HX1 : Hid (∀ u, Below W.heap.size W u → Box u (w.heap.size + 1) zeroR.cells 36) := fun u hu => b1.below hu b1.lt
  have HU1 : Hid (okR r.v = false → undoV r.v n p = noR) := fun h => undoV_bad h
  have HU4 : Hid (¬ r.kind = 1 → undoV r.v n p = noR) := fun h => undoV_kind (r := r.v) h
  have HU2 : Hid (okR (backV r.v n p) = false → undoV r.v n p = noR) := fun h => undoV_no h
  have HU3 : Hid (okR r.v = true → r.kind = 1 → okR (backV r.v n p) = true → undoV r.v n p = backV r.v n p) := fun h0 h1 h2 => undoV_yes h0 h1 h2
  generalize undoV r.v n p = R at *
  have C1 := specRecOk_any r W (hr.below hbW) hl
  have HS : Hid (∀ w', Box w' w.heap.size r.cells 36 → w'.cell? ⟨w.heap.size, 1, none⟩ = some (.int .i64 r.tx) ∧ w'.cell? ⟨w.heap.size, 2, none⟩ = some (.int .i64 r.prev) ∧ w'.cell? ⟨w.heap.size, 4, none⟩ = some (.int .i64 r.oid) ∧ w'.cell? ⟨w.heap.size, 5, none⟩ = some (.bool r.bf.v.has) ∧ w'.cell? ⟨w.heap.size, 6, none⟩ = some (.int .i64 r.bf.v.o.kind) ∧ w'.cell? ⟨w.heap.size, 7, none⟩ = some (.slice r.bf.aI r.bf.v.o.ints.length r.bf.cI) ∧ w'.cell? ⟨w.heap.size, 8, none⟩ = some (.slice r.bf.aR r.bf.v.o.refs.length r.bf.cR)) := fun w' b => ⟨b.cell 1 _ rfl, b.cell 2 _ rfl, b.cell 4 _ rfl, b.cell 5 _ rfl, b.cell 6 _ rfl, b.cell 7 _ rfl, b.cell 8 _ rfl⟩
  have HK : Hid (∀ w', Box w' w.heap.size r.cells 36 → w'.cell? ⟨w.heap.size, 3, none⟩ = some (.int .i64 r.kind)) := fun w' b => b.cell 3 _ rfl
  have HRG : Hid (∀ w', Box w' w.heap.size r.cells 36 → w'.rangeAt w.heap.size 0 r.cells) := fun w' b => Box.range [] r.cells [] (by simpa using b)
  have hlt := b1.lt
  clear b0 b1 hsW
  simp only [show zeroR.cells = [.int .i64 0, .int .i64 0, .int .i64 0, .int .i64 0, .int .i64 0, .bool false, .int .i64 0, .slice none 0 0, .slice none 0 0, .bool false, .int .i64 0, .slice none 0 0, .slice none 0 0, .int .i64 0, .slice none 0 0] from rfl] at hW
  go_enter Tryd.func5, Tryd.ntmps5
  go_wp2_with (first | (guard_target = wpList _ _ _ (Oper.mk (some 8) _ _ _ _ _ :: _) _ _; refine wpList_load_mid rfl 36 (.tmp 3) rfl w.heap.size 0 rfl r.cells _ (by rw [hW.out]; exact HRG.out _ (HX.out _ (Below.refl _ _))) Tryd.underlying36 rfl (rec_info _) ?_) | fail)
  rw [hW.out]
  clear hW
  refine C1.mono ?_
  clear C1
  rintro e w1 ⟨rfl, hb1⟩
  have B1 : Below w.heap.size w w1 := hbW.trans (hb1.mono hbW.size)
  have hs1 := hb1.size
  cases hok : okR r.v with
  | false =>
    have HR : Hid (zeroR.v = R) := (HU1.out hok).symm
    obtain ⟨WF, hWF, hwF, hsF, HTF, HLF, _⟩ := rec_out zeroR _ rfl (HX1.out _ hb1)
    have HE : Hid (zeroR.own WF w.heap.size WF.heap.size ∧ Below w.heap.size w WF) := ⟨own_zeroR _ _ _ (Nat.le_refl _), B1.trans (hwF.below (by omega) (by omega))⟩
    clear hwF hsF HU1 HU2 HU3 HU4 hok
    go_wp2_with (first | (guard_target = wpList _ _ _ (Oper.mk none (Op.store _ (Operand.tmp 6) _) _ _ _ _ :: _) _ _; refine wpList_store_mid rfl 36 (.tmp 6) (.tmp 16) rfl (w.heap.size + 1) 0 zeroR.cells.toArray rfl rfl HTF.out (by rw [List.size_toArray]; exact rec_info _) (rec_one _) ?_) | fail)
    rw [hWF.out]
    exact bodyPost_ret (v := .agg zeroR.cells.toArray) (results_one Tryd.results5 rfl HLF.out) rfl ⟨zeroR, rfl, HR, HE.out.1, HE.out.2⟩
  | true =>
  have k3 := HK.out _ (HX.out _ hb1)
  cases hk : (r.kind == 1) with
  | false =>
    have HR : Hid (zeroR.v = R) := (HU4.out (by simpa using hk)).symm
    obtain ⟨WF, hWF, hwF, hsF, HTF, HLF, _⟩ := rec_out zeroR _ rfl (HX1.out _ hb1)
    have HE : Hid (zeroR.own WF w.heap.size WF.heap.size ∧ Below w.heap.size w WF) := ⟨own_zeroR _ _ _ (Nat.le_refl _), B1.trans (hwF.below (by omega) (by omega))⟩
    clear hwF hsF HU1 HU2 HU3 HU4 hok
    go_wp2_with (first | (guard_target = wpList _ _ _ (Oper.mk none (Op.store _ (Operand.tmp 6) _) _ _ _ _ :: _) _ _; refine wpList_store_mid rfl 36 (.tmp 6) (.tmp 16) rfl (w.heap.size + 1) 0 zeroR.cells.toArray rfl rfl HTF.out (by rw [List.size_toArray]; exact rec_info _) (rec_one _) ?_) | fail)
    rw [hWF.out]
    exact bodyPost_ret (v := .agg zeroR.cells.toArray) (results_one Tryd.results5 rfl HLF.out) rfl ⟨zeroR, rfl, HR, HE.out.1, HE.out.2⟩
  | true =>
  have HU5 : Hid (okR (backV r.v n p) = true → R = backV r.v n p) := fun h => HU3.out hok (by simpa using hk) h
  clear HU1 HU3 HU4 hok
  go_upto_region 3 with fail
  go_cut [7] from 8 (fun x wx => ∃ (Bx : Nat) (t : SlotA), x = .pointer (some ⟨Bx, 0, none⟩) ∧ Hid (t.v = r.bf.v) ∧ Box wx Bx (backA n r.tx p r.oid t r.prev).cells 36 ∧ t.own wx w1.heap.size wx.heap.size ∧ Below w1.heap.size w1 wx)
  case first =>
    clear HU2 HU5 k3 hk
    have hrb := ReadsO.below hr.bf B1
    refine wp_region_held_drew (S := fun w' => w'.cell? ⟨w.heap.size, 1, none⟩ = some (.int .i64 r.tx) ∧ w'.cell? ⟨w.heap.size, 2, none⟩ = some (.int .i64 r.prev) ∧ w'.cell? ⟨w.heap.size, 4, none⟩ = some (.int .i64 r.oid) ∧ w'.cell? ⟨w.heap.size, 5, none⟩ = some (.bool r.bf.v.has) ∧ w'.cell? ⟨w.heap.size, 6, none⟩ = some (.int .i64 r.bf.v.o.kind) ∧ w'.cell? ⟨w.heap.size, 7, none⟩ = some (.slice r.bf.aI r.bf.v.o.ints.length r.bf.cI) ∧ w'.cell? ⟨w.heap.size, 8, none⟩ = some (.slice r.bf.aR r.bf.v.o.refs.length r.bf.cR)) (by kernel_rfl) (HS.out _ (HX.out _ hb1.drew)) (fun hHeld => ?_)
    refine wpAnyH_take (i := 0) (v := .int .i64 n) rfl (by kernel_rfl) (by kernel_rfl) (by kernel_rfl) (fun _ _ _ h => h) (Or.inl ⟨by rfl, ?_⟩) hHeld ?_
    · intro w' hSw
      go_simp <;> rfl
    try simp only [Act.put, List.getElem_toArray, List.getElem_cons_zero, List.setIfInBounds_toArray, List.set_cons_zero, List.set_cons_succ]
    refine wpAnyH_take (i := 1) (v := .pointer (some ⟨w.heap.size, 1, none⟩)) rfl (by kernel_rfl) (by kernel_rfl) (by kernel_rfl) (fun _ _ _ h => h) (Or.inl ⟨by rfl, ?_⟩) hHeld ?_
    · intro w' hSw
      go_simp <;> rfl
    try simp only [Act.put, List.getElem_toArray, List.getElem_cons_zero, List.getElem_cons_succ, List.setIfInBounds_toArray, List.set_cons_zero, List.set_cons_succ]
    refine wpAnyH_take (i := 2) (v := .int .i64 r.tx) rfl (by kernel_rfl) (by kernel_rfl) (by kernel_rfl) (fun _ _ _ h => h) (Or.inl ⟨by rfl, ?_⟩) hHeld ?_
    · intro w' hSw
      go_simp <;> rfl
    try simp only [Act.put, List.getElem_toArray, List.getElem_cons_zero, List.getElem_cons_succ, List.setIfInBounds_toArray, List.set_cons_zero, List.set_cons_succ]
    refine wpAnyH_take (i := 3) (v := .int .i64 p) rfl (by kernel_rfl) (by kernel_rfl) (by kernel_rfl) (fun _ _ _ h => h) (Or.inl ⟨by rfl, ?_⟩) hHeld ?_
    · intro w' hSw
      go_simp <;> rfl
    try simp only [Act.put, List.getElem_toArray, List.getElem_cons_zero, List.getElem_cons_succ, List.setIfInBounds_toArray, List.set_cons_zero, List.set_cons_succ]
    refine wpAnyH_take (i := 4) (v := .pointer (some ⟨w.heap.size, 4, none⟩)) rfl (by kernel_rfl) (by kernel_rfl) (by kernel_rfl) (fun _ _ _ h => h) (Or.inl ⟨by rfl, ?_⟩) hHeld ?_
    · intro w' hSw
      go_simp <;> rfl
    try simp only [Act.put, List.getElem_toArray, List.getElem_cons_zero, List.getElem_cons_succ, List.setIfInBounds_toArray, List.set_cons_zero, List.set_cons_succ]
    refine wpAnyH_take (i := 5) (v := .int .i64 r.oid) rfl (by kernel_rfl) (by kernel_rfl) (by kernel_rfl) (fun _ _ _ h => h) (Or.inl ⟨by rfl, ?_⟩) hHeld ?_
    · intro w' hSw
      go_simp <;> rfl
    try simp only [Act.put, List.getElem_toArray, List.getElem_cons_zero, List.getElem_cons_succ, List.setIfInBounds_toArray, List.set_cons_zero, List.set_cons_succ]
    refine wpAnyH_take (i := 6) (v := .pointer (some ⟨w.heap.size, 5, none⟩)) rfl (by kernel_rfl) (by kernel_rfl) (by kernel_rfl) (fun _ _ _ h => h) (Or.inl ⟨by rfl, ?_⟩) hHeld ?_
    · intro w' hSw
      go_simp <;> rfl
    try simp only [Act.put, List.getElem_toArray, List.getElem_cons_zero, List.getElem_cons_succ, List.setIfInBounds_toArray, List.set_cons_zero, List.set_cons_succ]
    refine wpAnyH_take (i := 7) (v := .agg #[.bool r.bf.v.has, .int .i64 r.bf.v.o.kind, .slice r.bf.aI r.bf.v.o.ints.length r.bf.cI, .slice r.bf.aR r.bf.v.o.refs.length r.bf.cR]) rfl (by kernel_rfl) (by kernel_rfl) (by kernel_rfl) (fun _ _ _ h => h) (Or.inl ⟨by rfl, ?_⟩) hHeld ?_
    · intro w' hSw
      go_simp <;> rfl
    try simp only [Act.put, List.getElem_toArray, List.getElem_cons_zero, List.getElem_cons_succ, List.setIfInBounds_toArray, List.set_cons_zero, List.set_cons_succ]
    refine wpAnyH_take (i := 9) (v := .pointer (some ⟨w.heap.size, 2, none⟩)) rfl (by kernel_rfl) (by kernel_rfl) (by kernel_rfl) (fun _ _ _ h => h) (Or.inl ⟨by rfl, ?_⟩) hHeld ?_
    · intro w' hSw
      go_simp <;> rfl
    try simp only [Act.put, List.getElem_toArray, List.getElem_cons_zero, List.getElem_cons_succ, List.setIfInBounds_toArray, List.set_cons_zero, List.set_cons_succ]
    refine wpAnyH_take (i := 10) (v := .int .i64 r.prev) rfl (by kernel_rfl) (by kernel_rfl) (by kernel_rfl) (fun _ _ _ h => h) (Or.inl ⟨by rfl, ?_⟩) hHeld ?_
    · intro w' hSw
      go_simp <;> rfl
    try simp only [Act.put, List.getElem_toArray, List.getElem_cons_zero, List.getElem_cons_succ, List.setIfInBounds_toArray, List.set_cons_zero, List.set_cons_succ]
    refine wpAnyH_ready (rs := [8, 12]) (by kernel_rfl) (by simp) ?_
    refine AllReadyH.cons rfl (fun K hK => ?_) (AllReadyH.cons rfl (fun K hK => ?_) AllReadyH.nil)
    · go_simp
      refine (l3CopySlot_own r.bf _ (ReadsO.below hrb (Below.refl _ _).drew) hl.bf.1 hl.bf.2).mono ?_
      rintro e u1 ⟨t, rfl, hv, ho, hbu⟩
      have hB0 : Below w1.heap.size w1 u1 := (Below.refl _ _).drew.trans hbu
      have hsu := hB0.size
      refine hK.out _ _ (HS.out _ (HX.out _ (hb1.trans (hB0.mono hb1.size)))) (fun hHeld => ?_)
      clear hK K
      try simp only [Act.put, List.getElem_toArray, List.getElem_cons_zero, List.getElem_cons_succ, List.setIfInBounds_toArray, List.set_cons_zero, List.set_cons_succ]
      refine wpAnyH_take (i := 11) (v := .agg (backA n r.tx p r.oid t r.prev).cells.toArray) rfl (by kernel_rfl) (by kernel_rfl) (by kernel_rfl) (fun _ _ _ h => h) (Or.inl ⟨by rfl, ?_⟩) hHeld ?_
      · intro w' hSw
        go_simp <;> rfl
      try simp only [Act.put, List.getElem_toArray, List.getElem_cons_zero, List.getElem_cons_succ, List.setIfInBounds_toArray, List.set_cons_zero, List.set_cons_succ]
      refine wpAnyH_ready (rs := [12]) (by kernel_rfl) (by simp) ?_
      refine AllReadyH.cons rfl (fun K hK => ?_) AllReadyH.nil
      go_simp
      have hB1 : Below w1.heap.size w1 (u1.alloc (.cells #[.int .i64 0, .int .i64 0, .int .i64 0, .int .i64 0, .int .i64 0, .bool false, .int .i64 0, .slice none 0 0, .slice none 0 0, .bool false, .int .i64 0, .slice none 0 0, .slice none 0 0, .int .i64 0, .slice none 0 0] 36)) := hB0.alloc hB0.size _
      refine hK.out _ _ (HS.out _ (HX.out _ (hb1.trans (hB1.mono hb1.size)))) (fun hHeld => ?_)
      clear hK K
      try simp only [Act.put, List.getElem_toArray, List.getElem_cons_zero, List.getElem_cons_succ, List.setIfInBounds_toArray, List.set_cons_zero, List.set_cons_succ]
      have bN : Box (u1.alloc (.cells #[.int .i64 0, .int .i64 0, .int .i64 0, .int .i64 0, .int .i64 0, .bool false, .int .i64 0, .slice none 0 0, .slice none 0 0, .bool false, .int .i64 0, .slice none 0 0, .slice none 0 0, .int .i64 0, .slice none 0 0] 36)) u1.heap.size [.int .i64 0, .int .i64 0, .int .i64 0, .int .i64 0, .int .i64 0, .bool false, .int .i64 0, .slice none 0 0, .slice none 0 0, .bool false, .int .i64 0, .slice none 0 0, .slice none 0 0, .int .i64 0, .slice none 0 0] 36 := box_new _ _ _
      have ho := OwnO.below ho ((Below.refl u1.heap.size u1).alloc (Nat.le_refl _) (.cells #[.int .i64 0, .int .i64 0, .int .i64 0, .int .i64 0, .int .i64 0, .bool false, .int .i64 0, .slice none 0 0, .slice none 0 0, .bool false, .int .i64 0, .slice none 0 0, .slice none 0 0, .int .i64 0, .slice none 0 0] 36))
      have hsN := bN.lt
      obtain ⟨WF, hWF, hwF, hsF, HTF, _, bF⟩ := rec_out (backA n r.tx p r.oid t r.prev) [.int .i64 0, .int .i64 0, .int .i64 0, .int .i64 0, .int .i64 0, .bool false, .int .i64 0, .slice none 0 0, .slice none 0 0, .bool false, .int .i64 0, .slice none 0 0, .slice none 0 0, .int .i64 0, .slice none 0 0] rfl bN
      have hSF : WF.cell? ⟨w.heap.size, 1, none⟩ = some (.int .i64 r.tx) ∧ WF.cell? ⟨w.heap.size, 2, none⟩ = some (.int .i64 r.prev) ∧ WF.cell? ⟨w.heap.size, 4, none⟩ = some (.int .i64 r.oid) ∧ WF.cell? ⟨w.heap.size, 5, none⟩ = some (.bool r.bf.v.has) ∧ WF.cell? ⟨w.heap.size, 6, none⟩ = some (.int .i64 r.bf.v.o.kind) ∧ WF.cell? ⟨w.heap.size, 7, none⟩ = some (.slice r.bf.aI r.bf.v.o.ints.length r.bf.cI) ∧ WF.cell? ⟨w.heap.size, 8, none⟩ = some (.slice r.bf.aR r.bf.v.o.refs.length r.bf.cR) := HS.out _ (HX.out _ ((hb1.trans (hB1.mono hb1.size)).trans (hwF.below (by have := hb1.size; omega) (by have := hb1.size; omega))))
      refine wpAnyH_ready (rs := [13]) (by kernel_rfl) (by simp) ?_
      refine AllReadyH.cons rfl (fun K hK => ?_) AllReadyH.nil
      rw [if_pos (by rfl)]
      refine wp_store_mid 36 (.tmp 7) (.tmp 28) rfl (u1.heap.size) 0 (backA n r.tx p r.oid t r.prev).cells.toArray rfl rfl HTF.out (by rw [List.size_toArray]; exact rec_info _) (rec_one _) ?_
      have HW : Hid ((u1.alloc (.cells #[.int .i64 0, .int .i64 0, .int .i64 0, .int .i64 0, .int .i64 0, .bool false, .int .i64 0, .slice none 0 0, .slice none 0 0, .bool false, .int .i64 0, .slice none 0 0, .slice none 0 0, .int .i64 0, .slice none 0 0] 36)).setCells (u1.heap.size) 0 (backA n r.tx p r.oid t r.prev).cells.toArray.toList = WF) := hWF.out
      rw [HW.out]
      refine hK.out _ _ hSF (fun hHeld => ?_)
      refine wpAnyH_done (by kernel_rfl) ?_ _
      have hRel : Hid (Below w1.heap.size w1 WF ∧ t.own WF w1.heap.size WF.heap.size) := ⟨hB1.trans (hwF.below (by omega) (by omega)), OwnO.widen (OwnO.within ho hwF (by omega)) (by first | omega | exact Nat.le_refl _) (by omega) (Nat.le_refl _)⟩
      clear hHeld hK K HW hWF hwF HTF hSF
      go_wp2_with fail
      go_meet
      case rel => exact ⟨u1.heap.size, t, rfl, hv, bF, hRel.out.2, hRel.out.1⟩
    · go_simp
      have hB0 : Below w1.heap.size w1 (w1.drew.alloc (.cells #[.int .i64 0, .int .i64 0, .int .i64 0, .int .i64 0, .int .i64 0, .bool false, .int .i64 0, .slice none 0 0, .slice none 0 0, .bool false, .int .i64 0, .slice none 0 0, .slice none 0 0, .int .i64 0, .slice none 0 0] 36)) := (Below.refl _ _).drew.alloc (Nat.le_refl _) _
      refine hK.out _ _ (HS.out _ (HX.out _ (hb1.trans (hB0.mono hb1.size)))) (fun hHeld => ?_)
      clear hK K
      try simp only [Act.put, List.getElem_toArray, List.getElem_cons_zero, List.getElem_cons_succ, List.setIfInBounds_toArray, List.set_cons_zero, List.set_cons_succ]
      refine wpAnyH_ready (rs := [8]) (by kernel_rfl) (by simp) ?_
      refine AllReadyH.cons rfl (fun K hK => ?_) AllReadyH.nil
      go_simp
      refine (l3CopySlot_own r.bf _ (ReadsO.below hrb hB0) hl.bf.1 hl.bf.2).mono ?_
      have bN0 : Box (w1.drew.alloc (.cells #[.int .i64 0, .int .i64 0, .int .i64 0, .int .i64 0, .int .i64 0, .bool false, .int .i64 0, .slice none 0 0, .slice none 0 0, .bool false, .int .i64 0, .slice none 0 0, .slice none 0 0, .int .i64 0, .slice none 0 0] 36)) w1.drew.heap.size [.int .i64 0, .int .i64 0, .int .i64 0, .int .i64 0, .int .i64 0, .bool false, .int .i64 0, .slice none 0 0, .slice none 0 0, .bool false, .int .i64 0, .slice none 0 0, .slice none 0 0, .int .i64 0, .slice none 0 0] 36 := box_new _ _ _
      generalize hAW : w1.drew.alloc (.cells #[.int .i64 0, .int .i64 0, .int .i64 0, .int .i64 0, .int .i64 0, .bool false, .int .i64 0, .slice none 0 0, .slice none 0 0, .bool false, .int .i64 0, .slice none 0 0, .slice none 0 0, .int .i64 0, .slice none 0 0] 36) = AW at *
      have bN1 : Box AW w1.heap.size [.int .i64 0, .int .i64 0, .int .i64 0, .int .i64 0, .int .i64 0, .bool false, .int .i64 0, .slice none 0 0, .slice none 0 0, .bool false, .int .i64 0, .slice none 0 0, .slice none 0 0, .int .i64 0, .slice none 0 0] 36 := bN0
      clear bN0 hAW
      rintro e u1 ⟨t, rfl, hv, ho, hbu⟩
      have hB1 : Below w1.heap.size w1 u1 := hB0.trans (hbu.mono hB0.size)
      have hsu := hB1.size
      have bN := bN1.below hbu bN1.lt
      have hsN := bN1.lt
      refine hK.out _ _ (HS.out _ (HX.out _ (hb1.trans (hB1.mono hb1.size)))) (fun hHeld => ?_)
      clear hK K
      try simp only [Act.put, List.getElem_toArray, List.getElem_cons_zero, List.getElem_cons_succ, List.setIfInBounds_toArray, List.set_cons_zero, List.set_cons_succ]
      refine wpAnyH_take (i := 11) (v := .agg (backA n r.tx p r.oid t r.prev).cells.toArray) rfl (by kernel_rfl) (by kernel_rfl) (by kernel_rfl) (fun _ _ _ h => h) (Or.inl ⟨by rfl, ?_⟩) hHeld ?_
      · intro w' hSw
        go_simp <;> rfl
      try simp only [Act.put, List.getElem_toArray, List.getElem_cons_zero, List.getElem_cons_succ, List.setIfInBounds_toArray, List.set_cons_zero, List.set_cons_succ]
      obtain ⟨WF, hWF, hwF, hsF, HTF, _, bF⟩ := rec_out (backA n r.tx p r.oid t r.prev) [.int .i64 0, .int .i64 0, .int .i64 0, .int .i64 0, .int .i64 0, .bool false, .int .i64 0, .slice none 0 0, .slice none 0 0, .bool false, .int .i64 0, .slice none 0 0, .slice none 0 0, .int .i64 0, .slice none 0 0] rfl bN
      have hSF : WF.cell? ⟨w.heap.size, 1, none⟩ = some (.int .i64 r.tx) ∧ WF.cell? ⟨w.heap.size, 2, none⟩ = some (.int .i64 r.prev) ∧ WF.cell? ⟨w.heap.size, 4, none⟩ = some (.int .i64 r.oid) ∧ WF.cell? ⟨w.heap.size, 5, none⟩ = some (.bool r.bf.v.has) ∧ WF.cell? ⟨w.heap.size, 6, none⟩ = some (.int .i64 r.bf.v.o.kind) ∧ WF.cell? ⟨w.heap.size, 7, none⟩ = some (.slice r.bf.aI r.bf.v.o.ints.length r.bf.cI) ∧ WF.cell? ⟨w.heap.size, 8, none⟩ = some (.slice r.bf.aR r.bf.v.o.refs.length r.bf.cR) := HS.out _ (HX.out _ ((hb1.trans (hB1.mono hb1.size)).trans (hwF.below (by have := hb1.size; omega) (by have := hb1.size; omega))))
      refine wpAnyH_ready (rs := [13]) (by kernel_rfl) (by simp) ?_
      refine AllReadyH.cons rfl (fun K hK => ?_) AllReadyH.nil
      rw [if_pos (by rfl)]
      refine wp_store_mid 36 (.tmp 7) (.tmp 28) rfl (w1.heap.size) 0 (backA n r.tx p r.oid t r.prev).cells.toArray rfl rfl HTF.out (by rw [List.size_toArray]; exact rec_info _) (rec_one _) ?_
      have HW : Hid ((u1).setCells (w1.heap.size) 0 (backA n r.tx p r.oid t r.prev).cells.toArray.toList = WF) := hWF.out
      rw [HW.out]
      refine hK.out _ _ hSF (fun hHeld => ?_)
      refine wpAnyH_done (by kernel_rfl) ?_ _
      have hRel : Hid (Below w1.heap.size w1 WF ∧ t.own WF w1.heap.size WF.heap.size) := ⟨hB1.trans (hwF.below (by omega) (by omega)), OwnO.widen (OwnO.within ho hwF (by omega)) (by first | omega | exact Nat.le_refl _) (by omega) (Nat.le_refl _)⟩
      clear hHeld hK K HW hWF hwF HTF hSF
      go_wp2_with fail
      go_meet
      case rel => exact ⟨w1.heap.size, t, rfl, hv, bF, hRel.out.2, hRel.out.1⟩
  case rest =>
    obtain ⟨B7, t, rfl, hv, b7, ho, hbc⟩ := hcut
    have M4 : Below W.heap.size W wc := hb1.trans (hbc.mono hb1.size)
    have B4 : Below w.heap.size w wc := B1.trans (hbc.mono B1.size)
    have hsc := hbc.size
    have hB1s := B1.size
    have HTV : Hid ((backA n r.tx p r.oid t r.prev).v = backV r.v n p) := by simp only [Hid, RecA.v, backA, backV, hv.out]; rfl
    have hts : (backA n r.tx p r.oid t r.prev).short 1099511627776 := ⟨⟨Nat.zero_le _, Nat.zero_le _⟩, by rw [show (backA n r.tx p r.oid t r.prev).af = t from rfl, hv.out]; exact hl.bf, Nat.zero_le _⟩
    have hto : (backA n r.tx p r.oid t r.prev).own wc w1.heap.size wc.heap.size := own_backA _ _ _ _ _ ho (Nat.le_refl _)
    generalize backA n r.tx p r.oid t r.prev = T at *
    have C6 := specRecOk_any T wc hto.reads hts
    rw [HTV.out] at C6
    have HR5 : Hid (∀ u, Below wc.heap.size wc u → u.rangeAt B7 0 T.cells) := fun u hu => Box.range [] T.cells [] (by simpa using b7.below hu b7.lt)
    have r5 := HR5.out _ (Below.refl _ _)
    clear k3 hk
    go_wp2_with (first | (guard_target = wpList _ _ _ (Oper.mk (some 29) _ _ _ _ _ :: _) _ _; refine wpList_load_mid rfl 36 (.tmp 7) rfl B7 0 rfl T.cells _ r5 Tryd.underlying36 rfl (rec_info _) ?_) | fail)
    clear r5
    refine C6.mono ?_
    clear C6
    rintro e w6 ⟨rfl, hb6⟩
    have M6 : Below W.heap.size W w6 := M4.trans (hb6.mono M4.size)
    have B6 : Below w.heap.size w w6 := B4.trans (hb6.mono B4.size)
    have hs6 := hb6.size
    cases hok6 : okR (backV r.v n p) with
    | false =>
      have HR : Hid (zeroR.v = R) := (HU2.out hok6).symm
      obtain ⟨WF, hWF, hwF, hsF, HTF, HLF, _⟩ := rec_out zeroR _ rfl (HX1.out _ M6)
      have HE : Hid (zeroR.own WF w.heap.size WF.heap.size ∧ Below w.heap.size w WF) := ⟨own_zeroR _ _ _ (Nat.le_refl _), B6.trans (hwF.below (by omega) (by omega))⟩
      clear hwF hsF HU2 HU5 hok6
      go_wp2_with (first | (guard_target = wpList _ _ _ (Oper.mk none (Op.store _ (Operand.tmp 6) _) _ _ _ _ :: _) _ _; refine wpList_store_mid rfl 36 (.tmp 6) (.tmp 32) rfl (w.heap.size + 1) 0 zeroR.cells.toArray rfl rfl HTF.out (by rw [List.size_toArray]; exact rec_info _) (rec_one _) ?_) | fail)
      rw [hWF.out]
      exact bodyPost_ret (v := .agg zeroR.cells.toArray) (results_one Tryd.results5 rfl HLF.out) rfl ⟨zeroR, rfl, HR, HE.out.1, HE.out.2⟩
    | true =>
      have HR : Hid (T.v = R) := HTV.out.trans (HU5.out hok6).symm
      obtain ⟨WF, hWF, hwF, hsF, HTF, HLF, _⟩ := rec_out T _ rfl (HX1.out _ M6)
      have oF : T.own WF w.heap.size WF.heap.size := ((hto.below hb6).within hwF (.inr (by omega))).widen (by omega) (by omega) (Nat.le_refl _)
      have HE : Hid (T.own WF w.heap.size WF.heap.size ∧ Below w.heap.size w WF) := ⟨oF, B6.trans (hwF.below (by omega) (by omega))⟩
      have r6 := HR5.out _ hb6
      clear hwF hsF HU2 HU5 hok6 oF
      go_wp2_with (first | (guard_target = wpList _ _ _ (Oper.mk (some 33) _ _ _ _ _ :: _) _ _; refine wpList_load_mid rfl 36 (.tmp 7) rfl B7 0 rfl T.cells _ r6 Tryd.underlying36 rfl (rec_info _) ?_) | (guard_target = wpList _ _ _ (Oper.mk none (Op.store _ (Operand.tmp 6) _) _ _ _ _ :: _) _ _; refine wpList_store_mid rfl 36 (.tmp 6) (.tmp 33) rfl (w.heap.size + 1) 0 T.cells.toArray rfl rfl HTF.out (by rw [List.size_toArray]; exact rec_info _) (rec_one _) ?_) | fail)
      rw [hWF.out]
      exact bodyPost_ret (v := .agg T.cells.toArray) (results_one Tryd.results5 rfl HLF.out) rfl ⟨T, rfl, HR, HE.out.1, HE.out.2⟩
end Go.Proofs.YtjaojcgfgkppgabDoor
