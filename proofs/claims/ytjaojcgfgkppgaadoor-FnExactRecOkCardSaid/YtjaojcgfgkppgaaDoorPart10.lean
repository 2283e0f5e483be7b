/- Several texts in one, in their order. -/
import Derived.Test.YtjaojcgfgkppgaaDoorPart9
import Derived.Test.YtjaojcgfgkppgaaDoorPart1
import Derived.ProofKit
import Derived.OpenShut
import Derived.ChangeOld
import Derived.Test.YtjaojcgfgkppgaaDoorPart3
import Derived.ChangeArms
import Derived.Test.YtjaojcgfgkppgaaDoorPart7
import Derived.Deep.RegionHeld3
import Derived.Test.YtjaojcgfgkppgaaDoorRows
import Derived.Test.YtjaojcgfgkppgaaDoorPart8
import Derived.LaidLaws
import Derived.LaidHandle
import Derived.Stop.Joined
import Derived.ChangeVars
/- The walk of impl.RecOk. -/
namespace Go.Proofs.YtjaojcgfgkppgaaDoor
open Go.RowKit

/-- Is what the record tells right? -/
def deedB (n : Int) (r : RecV) : Bool :=
  if r.kind == 1 then (linkB n r.tx r.prev && (inB r.oid 1 31 && (slotB r.bf && slotB r.af)))
  else if r.kind == 2 then linkB n r.tx r.prev
  else if r.kind == 3 then linkB n r.tx r.prev
  else if r.kind == 4 then (linkB n r.tx r.prev && (inB r.oid 1 31 && (slotB r.af && inB r.next 0 (n - 1))))
  else if r.kind == 5 then linkB n r.tx r.prev
  else if r.kind == 6 then livesB n r.txs
  else false
/-- The record that tells this and nothing else. -/
def cutA (n : Int) (r : RecA) : RecA :=
  if r.kind == 1 then ⟨n, r.tx, r.prev, 1, r.oid, r.bf, r.af, 0, [], none, 0⟩
  else if r.kind == 2 then recA n r.tx r.prev 2
  else if r.kind == 3 then recA n r.tx r.prev 3
  else if r.kind == 4 then ⟨n, r.tx, r.prev, 4, r.oid, zeroS, r.af, r.next, [], none, 0⟩
  else if r.kind == 5 then recA n r.tx r.prev 5
  else if r.kind == 6 then ⟨n, 0, 0, 6, 0, zeroS, zeroS, 0, r.txs, r.aL, r.cL⟩
  else recA 0 0 0 0
theorem one_fit {s : SlotA} (h : s.v.o.ints.length ≤ 1099511627776 ∧ s.v.o.refs.length ≤ 1099511627776) : Fit [s] := fun t ht => by obtain rfl := List.mem_singleton.1 ht; exact h

theorem deedOk_any (n : Int) (r : RecA) (w : World) (hg : ErrT w) (hr : r.reads w) (hl : r.short 1099511627776) :
    Calls Tryd.prog 37 #[.int .i64 n, deedV r] w fun e w' => e = .returned (.bool (deedB n r.v)) ∧ Below w.heap.size w w' := by
  cases k1 : (r.kind == 1) with
  | true =>
    have e1 : deedV r = issetDeed (setD r.tx r.prev r.oid r.bf r.af) := by simp [deedV, k1]
    have e2 : deedB n r.v = (linkB n r.tx r.prev && (inB r.oid 1 31 && (slotB r.bf.v && slotB r.af.v))) := by simp [deedB, RecA.v, k1]
    rw [e1, e2]
    exact deedOk_set n r.tx r.prev r.oid r.bf r.af w hg hr.bf hr.af (one_fit hl.bf) (one_fit hl.af)
  | false =>
    cases k2 : (r.kind == 2) with
    | true =>
      have e1 : deedV r = iscommitDeed (linkD r.tx r.prev) := by simp [deedV, k1, k2]
      have e2 : deedB n r.v = linkB n r.tx r.prev := by simp [deedB, RecA.v, k1, k2]
      rw [e1, e2]
      exact deedOk_commit n r.tx r.prev w
    | false =>
      cases k3 : (r.kind == 3) with
      | true =>
        have e1 : deedV r = isabortDeed (linkD r.tx r.prev) := by simp [deedV, k1, k2, k3]
        have e2 : deedB n r.v = linkB n r.tx r.prev := by simp [deedB, RecA.v, k1, k2, k3]
        rw [e1, e2]
        exact deedOk_abort n r.tx r.prev w
      | false =>
        cases k4 : (r.kind == 4) with
        | true =>
          have e1 : deedV r = isbackDeed (backD r.tx r.prev r.oid r.af r.next) := by simp [deedV, k1, k2, k3, k4]
          have e2 : deedB n r.v = (linkB n r.tx r.prev && (inB r.oid 1 31 && (slotB r.af.v && inB r.next 0 (n - 1)))) := by simp [deedB, RecA.v, k1, k2, k3, k4]
          rw [e1, e2]
          exact deedOk_back n r.tx r.prev r.oid r.af r.next w hg hr.af (one_fit hl.af)
        | false =>
          cases k5 : (r.kind == 5) with
          | true =>
            have e1 : deedV r = isendDeed (linkD r.tx r.prev) := by simp [deedV, k1, k2, k3, k4, k5]
            have e2 : deedB n r.v = linkB n r.tx r.prev := by simp [deedB, RecA.v, k1, k2, k3, k4, k5]
            rw [e1, e2]
            exact deedOk_end n r.tx r.prev w
          | false =>
            cases k6 : (r.kind == 6) with
            | true =>
              have e1 : deedV r = ischeckDeed (checkD r.txs r.aL r.cL) := by simp [deedV, k1, k2, k3, k4, k5, k6]
              have e2 : deedB n r.v = livesB n r.txs := by simp [deedB, RecA.v, k1, k2, k3, k4, k5, k6]
              rw [e1, e2]
              exact deedOk_check n r.txs r.aL r.cL w hr.txs hl.txs
            | false =>
              have e1 : deedV r = .nilIface := by simp [deedV, k1, k2, k3, k4, k5, k6]
              have e2 : deedB n r.v = false := by simp [deedB, RecA.v, k1, k2, k3, k4, k5, k6]
              rw [e1, e2]
              exact deedOk_nil n w
theorem recOf_any (n : Int) (r : RecA) (w : World) :
    Calls Tryd.prog 39 #[.int .i64 n, deedV r] w fun e w' => e = .returned (.agg (cutA n r).cells.toArray) ∧ Below w.heap.size w w' := by
  cases k1 : (r.kind == 1) with
  | true =>
    have e1 : deedV r = issetDeed (setD r.tx r.prev r.oid r.bf r.af) := by simp [deedV, k1]
    have e2 : cutA n r = ⟨n, r.tx, r.prev, 1, r.oid, r.bf, r.af, 0, [], none, 0⟩ := by simp [cutA, k1]
    rw [e1, e2]
    exact recOf_set n r.tx r.prev r.oid r.bf r.af w
  | false =>
    cases k2 : (r.kind == 2) with
    | true =>
      have e1 : deedV r = iscommitDeed (linkD r.tx r.prev) := by simp [deedV, k1, k2]
      have e2 : cutA n r = recA n r.tx r.prev 2 := by simp [cutA, k1, k2]
      rw [e1, e2]
      exact recOf_commit n r.tx r.prev w
    | false =>
      cases k3 : (r.kind == 3) with
      | true =>
        have e1 : deedV r = isabortDeed (linkD r.tx r.prev) := by simp [deedV, k1, k2, k3]
        have e2 : cutA n r = recA n r.tx r.prev 3 := by simp [cutA, k1, k2, k3]
        rw [e1, e2]
        exact recOf_abort n r.tx r.prev w
      | false =>
        cases k4 : (r.kind == 4) with
        | true =>
          have e1 : deedV r = isbackDeed (backD r.tx r.prev r.oid r.af r.next) := by simp [deedV, k1, k2, k3, k4]
          have e2 : cutA n r = ⟨n, r.tx, r.prev, 4, r.oid, zeroS, r.af, r.next, [], none, 0⟩ := by simp [cutA, k1, k2, k3, k4]
          rw [e1, e2]
          exact recOf_back n r.tx r.prev r.oid r.af r.next w
        | false =>
          cases k5 : (r.kind == 5) with
          | true =>
            have e1 : deedV r = isendDeed (linkD r.tx r.prev) := by simp [deedV, k1, k2, k3, k4, k5]
            have e2 : cutA n r = recA n r.tx r.prev 5 := by simp [cutA, k1, k2, k3, k4, k5]
            rw [e1, e2]
            exact recOf_end n r.tx r.prev w
          | false =>
            cases k6 : (r.kind == 6) with
            | true =>
              have e1 : deedV r = ischeckDeed (checkD r.txs r.aL r.cL) := by simp [deedV, k1, k2, k3, k4, k5, k6]
              have e2 : cutA n r = ⟨n, 0, 0, 6, 0, zeroS, zeroS, 0, r.txs, r.aL, r.cL⟩ := by simp [cutA, k1, k2, k3, k4, k5, k6]
              rw [e1, e2]
              exact recOf_check n r.txs r.aL r.cL w
            | false =>
              have e1 : deedV r = .nilIface := by simp [deedV, k1, k2, k3, k4, k5, k6]
              have e2 : cutA n r = recA 0 0 0 0 := by simp [cutA, k1, k2, k3, k4, k5, k6]
              rw [e1, e2]
              exact recOf_nil n w
theorem cutA_reads (n : Int) {r : RecA} {w : World} (h : r.reads w) : (cutA n r).reads w := by
  have z : zeroS.reads w := ⟨ReadsI.nil _ _, ReadsI.nil _ _, fun _ => rfl, fun _ => rfl⟩
  have y : ReadsL w none [] := ReadsL.nil _ _
  unfold cutA
  split
  · exact ⟨h.bf, h.af, y⟩
  split
  · exact ⟨z, z, y⟩
  split
  · exact ⟨z, z, y⟩
  split
  · exact ⟨z, h.af, y⟩
  split
  · exact ⟨z, z, y⟩
  split
  · exact ⟨z, z, h.txs⟩
  · exact ⟨z, z, y⟩
theorem cutA_short (n : Int) {r : RecA} {m : Nat} (h : r.short m) : (cutA n r).short m := by
  have z : zeroS.v.o.ints.length ≤ m ∧ zeroS.v.o.refs.length ≤ m := ⟨Nat.zero_le _, Nat.zero_le _⟩
  have y : ([] : List LiveV).length ≤ m := Nat.zero_le _
  unfold cutA
  split
  · exact ⟨h.bf, h.af, y⟩
  split
  · exact ⟨z, z, y⟩
  split
  · exact ⟨z, z, y⟩
  split
  · exact ⟨z, h.af, y⟩
  split
  · exact ⟨z, z, y⟩
  split
  · exact ⟨z, z, h.txs⟩
  · exact ⟨z, z, y⟩
theorem isNo_same (v : SlotV) : sameS noS v = isNo v := by
  obtain ⟨h, k, i, f⟩ := v
  cases h
  · simp [sameS, isNo, noS, noO, sameO, eq_comm]
  · simp [sameS, isNo, noS]
theorem sameS_refl (v : SlotV) : sameS v v = true := by simp [sameS, sameO]
theorem isNo_slot {v : SlotV} (h : isNo v = true) : slotB v = true := by
  obtain ⟨b, k, i, f⟩ := v
  cases b
  · simp [isNo, sameO] at h
    simp [slotB, h]
  · simp [isNo] at h
theorem zeroV : zeroS.v = noS := rfl

theorem okV_set (n t v o : Int) (b a : SlotV) (x : Int) (l : List LiveV) : ((inB n 1 1000000 && ((linkB n t v && (inB o 1 31 && (slotB b && slotB a))) && sameR ⟨n, t, v, 1, o, b, a, 0, []⟩ ⟨n, t, v, 1, o, b, a, x, l⟩)) = true) ↔ okR ⟨n, t, v, 1, o, b, a, x, l⟩ = true := by
  have hb : isNo b = true → slotB b = true := isNo_slot
  have ha : isNo a = true → slotB a = true := isNo_slot
  simp only [sameR, sameS_refl, sameLs_nil, okR, zeroB, linkB, Bool.and_eq_true, beq_self_eq_true, beq_iff_eq, decide_eq_true_eq, Bool.true_or, Bool.false_or]
  generalize isNo b = ib at *
  generalize isNo a = ia at *
  generalize slotB b = sb at *
  generalize slotB a = sa at *
  by_cases hl : l = []
  all_goals cases ib <;> cases ia <;> cases sb <;> cases sa <;> simp [inB, hl] at hb ha ⊢ <;> omega
theorem okR_set (r : RecA) (hk : r.kind = 1) : ((inB r.lsn 1 1000000 && ((linkB r.lsn r.tx r.prev && (inB r.oid 1 31 && (slotB r.bf.v && slotB r.af.v))) && sameR (RecA.v (⟨r.lsn, r.tx, r.prev, 1, r.oid, r.bf, r.af, 0, [], none, 0⟩)) r.v)) = true) ↔ okR r.v = true := by
  obtain ⟨n, t, v, k, o, b, a, x, l, aL, cL⟩ := r
  simp only at hk
  subst hk
  exact okV_set n t v o b.v a.v x l
theorem okV_commit (n t v o : Int) (b a : SlotV) (x : Int) (l : List LiveV) : ((inB n 1 1000000 && (linkB n t v && sameR ⟨n, t, v, 2, 0, noS, noS, 0, []⟩ ⟨n, t, v, 2, o, b, a, x, l⟩)) = true) ↔ okR ⟨n, t, v, 2, o, b, a, x, l⟩ = true := by
  have hb : isNo b = true → slotB b = true := isNo_slot
  have ha : isNo a = true → slotB a = true := isNo_slot
  simp only [sameR, isNo_same, sameLs_nil, okR, zeroB, linkB, Bool.and_eq_true, beq_self_eq_true, beq_iff_eq, decide_eq_true_eq, Bool.true_or, Bool.false_or]
  generalize isNo b = ib at *
  generalize isNo a = ia at *
  generalize slotB b = sb at *
  generalize slotB a = sa at *
  by_cases hl : l = []
  all_goals cases ib <;> cases ia <;> cases sb <;> cases sa <;> simp [inB, hl] at hb ha ⊢ <;> omega
theorem okR_commit (r : RecA) (hk : r.kind = 2) : ((inB r.lsn 1 1000000 && (linkB r.lsn r.tx r.prev && sameR (RecA.v (recA r.lsn r.tx r.prev 2)) r.v)) = true) ↔ okR r.v = true := by
  obtain ⟨n, t, v, k, o, b, a, x, l, aL, cL⟩ := r
  simp only at hk
  subst hk
  exact okV_commit n t v o b.v a.v x l
theorem okV_abort (n t v o : Int) (b a : SlotV) (x : Int) (l : List LiveV) : ((inB n 1 1000000 && (linkB n t v && sameR ⟨n, t, v, 3, 0, noS, noS, 0, []⟩ ⟨n, t, v, 3, o, b, a, x, l⟩)) = true) ↔ okR ⟨n, t, v, 3, o, b, a, x, l⟩ = true := by
  have hb : isNo b = true → slotB b = true := isNo_slot
  have ha : isNo a = true → slotB a = true := isNo_slot
  simp only [sameR, isNo_same, sameLs_nil, okR, zeroB, linkB, Bool.and_eq_true, beq_self_eq_true, beq_iff_eq, decide_eq_true_eq, Bool.true_or, Bool.false_or]
  generalize isNo b = ib at *
  generalize isNo a = ia at *
  generalize slotB b = sb at *
  generalize slotB a = sa at *
  by_cases hl : l = []
  all_goals cases ib <;> cases ia <;> cases sb <;> cases sa <;> simp [inB, hl] at hb ha ⊢ <;> omega
theorem okR_abort (r : RecA) (hk : r.kind = 3) : ((inB r.lsn 1 1000000 && (linkB r.lsn r.tx r.prev && sameR (RecA.v (recA r.lsn r.tx r.prev 3)) r.v)) = true) ↔ okR r.v = true := by
  obtain ⟨n, t, v, k, o, b, a, x, l, aL, cL⟩ := r
  simp only at hk
  subst hk
  exact okV_abort n t v o b.v a.v x l
theorem okV_back (n t v o : Int) (b a : SlotV) (x : Int) (l : List LiveV) : ((inB n 1 1000000 && ((linkB n t v && (inB o 1 31 && (slotB a && inB x 0 (n - 1)))) && sameR ⟨n, t, v, 4, o, noS, a, x, []⟩ ⟨n, t, v, 4, o, b, a, x, l⟩)) = true) ↔ okR ⟨n, t, v, 4, o, b, a, x, l⟩ = true := by
  have hb : isNo b = true → slotB b = true := isNo_slot
  have ha : isNo a = true → slotB a = true := isNo_slot
  simp only [sameR, isNo_same, sameS_refl, sameLs_nil, okR, zeroB, linkB, Bool.and_eq_true, beq_self_eq_true, beq_iff_eq, decide_eq_true_eq, Bool.true_or, Bool.false_or]
  generalize isNo b = ib at *
  generalize isNo a = ia at *
  generalize slotB b = sb at *
  generalize slotB a = sa at *
  by_cases hl : l = []
  all_goals cases ib <;> cases ia <;> cases sb <;> cases sa <;> simp [inB, hl] at hb ha ⊢ <;> omega
theorem okR_back (r : RecA) (hk : r.kind = 4) : ((inB r.lsn 1 1000000 && ((linkB r.lsn r.tx r.prev && (inB r.oid 1 31 && (slotB r.af.v && inB r.next 0 (r.lsn - 1)))) && sameR (RecA.v (⟨r.lsn, r.tx, r.prev, 4, r.oid, zeroS, r.af, r.next, [], none, 0⟩)) r.v)) = true) ↔ okR r.v = true := by
  obtain ⟨n, t, v, k, o, b, a, x, l, aL, cL⟩ := r
  simp only at hk
  subst hk
  exact okV_back n t v o b.v a.v x l
theorem okV_end (n t v o : Int) (b a : SlotV) (x : Int) (l : List LiveV) : ((inB n 1 1000000 && (linkB n t v && sameR ⟨n, t, v, 5, 0, noS, noS, 0, []⟩ ⟨n, t, v, 5, o, b, a, x, l⟩)) = true) ↔ okR ⟨n, t, v, 5, o, b, a, x, l⟩ = true := by
  have hb : isNo b = true → slotB b = true := isNo_slot
  have ha : isNo a = true → slotB a = true := isNo_slot
  simp only [sameR, isNo_same, sameLs_nil, okR, zeroB, linkB, Bool.and_eq_true, beq_self_eq_true, beq_iff_eq, decide_eq_true_eq, Bool.true_or, Bool.false_or]
  generalize isNo b = ib at *
  generalize isNo a = ia at *
  generalize slotB b = sb at *
  generalize slotB a = sa at *
  by_cases hl : l = []
  all_goals cases ib <;> cases ia <;> cases sb <;> cases sa <;> simp [inB, hl] at hb ha ⊢ <;> omega
theorem okR_end (r : RecA) (hk : r.kind = 5) : ((inB r.lsn 1 1000000 && (linkB r.lsn r.tx r.prev && sameR (RecA.v (recA r.lsn r.tx r.prev 5)) r.v)) = true) ↔ okR r.v = true := by
  obtain ⟨n, t, v, k, o, b, a, x, l, aL, cL⟩ := r
  simp only at hk
  subst hk
  exact okV_end n t v o b.v a.v x l
theorem okV_check (n t v o : Int) (b a : SlotV) (x : Int) (l : List LiveV) : ((inB n 1 1000000 && (livesB n l && sameR ⟨n, 0, 0, 6, 0, noS, noS, 0, l⟩ ⟨n, t, v, 6, o, b, a, x, l⟩)) = true) ↔ okR ⟨n, t, v, 6, o, b, a, x, l⟩ = true := by
  have hb : isNo b = true → slotB b = true := isNo_slot
  have ha : isNo a = true → slotB a = true := isNo_slot
  simp only [sameR, isNo_same, sameLs_refl, okR, zeroB, Bool.and_eq_true, beq_self_eq_true, beq_iff_eq, Bool.true_or, Bool.false_or]
  generalize isNo b = ib at *
  generalize isNo a = ia at *
  generalize slotB b = sb at *
  generalize slotB a = sa at *
  generalize livesB n l = L at *
  all_goals cases L <;> cases ib <;> cases ia <;> cases sb <;> cases sa <;> simp [inB] at hb ha ⊢ <;> omega
theorem okR_check (r : RecA) (hk : r.kind = 6) : ((inB r.lsn 1 1000000 && (livesB r.lsn r.txs && sameR (RecA.v (⟨r.lsn, 0, 0, 6, 0, zeroS, zeroS, 0, r.txs, r.aL, r.cL⟩)) r.v)) = true) ↔ okR r.v = true := by
  obtain ⟨n, t, v, k, o, b, a, x, l, aL, cL⟩ := r
  simp only at hk
  subst hk
  exact okV_check n t v o b.v a.v x l
/-- The landed code's test is the model's. -/
theorem okR_eq (r : RecA) : (inB r.lsn 1 1000000 && (deedB r.lsn r.v && sameR (cutA r.lsn r).v r.v)) = okR r.v := by
  rw [Bool.eq_iff_iff]
  cases k1 : (r.kind == 1) with
  | true =>
    have e2 : deedB r.lsn r.v = (linkB r.lsn r.tx r.prev && (inB r.oid 1 31 && (slotB r.bf.v && slotB r.af.v))) := by simp [deedB, RecA.v, k1]
    have e3 : cutA r.lsn r = ⟨r.lsn, r.tx, r.prev, 1, r.oid, r.bf, r.af, 0, [], none, 0⟩ := by simp [cutA, k1]
    rw [e2, e3]
    have hk : r.kind = 1 := by simpa using k1
    exact okR_set _ (by simpa using k1)
  | false =>
    cases k2 : (r.kind == 2) with
    | true =>
      have e2 : deedB r.lsn r.v = linkB r.lsn r.tx r.prev := by simp [deedB, RecA.v, k1, k2]
      have e3 : cutA r.lsn r = recA r.lsn r.tx r.prev 2 := by simp [cutA, k1, k2]
      rw [e2, e3]
      have hk : r.kind = 2 := by simpa using k2
      exact okR_commit _ (by simpa using k2)
    | false =>
      cases k3 : (r.kind == 3) with
      | true =>
        have e2 : deedB r.lsn r.v = linkB r.lsn r.tx r.prev := by simp [deedB, RecA.v, k1, k2, k3]
        have e3 : cutA r.lsn r = recA r.lsn r.tx r.prev 3 := by simp [cutA, k1, k2, k3]
        rw [e2, e3]
        have hk : r.kind = 3 := by simpa using k3
        exact okR_abort _ (by simpa using k3)
      | false =>
        cases k4 : (r.kind == 4) with
        | true =>
          have e2 : deedB r.lsn r.v = (linkB r.lsn r.tx r.prev && (inB r.oid 1 31 && (slotB r.af.v && inB r.next 0 (r.lsn - 1)))) := by simp [deedB, RecA.v, k1, k2, k3, k4]
          have e3 : cutA r.lsn r = ⟨r.lsn, r.tx, r.prev, 4, r.oid, zeroS, r.af, r.next, [], none, 0⟩ := by simp [cutA, k1, k2, k3, k4]
          rw [e2, e3]
          have hk : r.kind = 4 := by simpa using k4
          exact okR_back _ (by simpa using k4)
        | false =>
          cases k5 : (r.kind == 5) with
          | true =>
            have e2 : deedB r.lsn r.v = linkB r.lsn r.tx r.prev := by simp [deedB, RecA.v, k1, k2, k3, k4, k5]
            have e3 : cutA r.lsn r = recA r.lsn r.tx r.prev 5 := by simp [cutA, k1, k2, k3, k4, k5]
            rw [e2, e3]
            have hk : r.kind = 5 := by simpa using k5
            exact okR_end _ (by simpa using k5)
          | false =>
            cases k6 : (r.kind == 6) with
            | true =>
              have e2 : deedB r.lsn r.v = livesB r.lsn r.txs := by simp [deedB, RecA.v, k1, k2, k3, k4, k5, k6]
              have e3 : cutA r.lsn r = ⟨r.lsn, 0, 0, 6, 0, zeroS, zeroS, 0, r.txs, r.aL, r.cL⟩ := by simp [cutA, k1, k2, k3, k4, k5, k6]
              rw [e2, e3]
              have hk : r.kind = 6 := by simpa using k6
              exact okR_check _ (by simpa using k6)
            | false =>
              have e2 : deedB r.lsn r.v = false := by simp [deedB, RecA.v, k1, k2, k3, k4, k5, k6]
              have e3 : okR r.v = false := by simp [okR, RecA.v, k1, k2, k3, k4, k5, k6]
              rw [e2, e3]
              simp
set_option maxHeartbeats 4000000 in
set_option maxRecDepth 100000 in
theorem implRecOk_any (r : RecA) (w : World) (hg : ErrT w) (hr : r.reads w) (hl : r.short 1099511627776) :
    Calls Tryd.prog 11 #[.agg r.cells.toArray] w fun e w' => e = .returned (.bool (okR r.v)) ∧ Below w.heap.size w w' := by
  obtain ⟨W, hW, b0, hbW, hsW⟩ := boxes1 w r.cells 31
  have HZ : Hid (okR r.v = _) := (okR_eq r).symm
  have HX : Hid (∀ u, Below W.heap.size W u → Box u w.heap.size r.cells 31) := fun u hu => b0.below hu b0.lt
  have C1 := deedOf_any r W
  have HD : Hid (∀ u, Below w.heap.size w u → Calls _ _ _ _ _) := fun u hu => deedOk_any r.lsn r u (hg.keep hu) (hr.below hu) hl
  have HM : Hid (∀ u, Below w.heap.size w u → Calls _ _ _ _ _) := fun u hu => sameRec_any (cutA r.lsn r) r u (cutA_reads r.lsn (hr.below hu)) (hr.below hu) (cutA_short r.lsn hl) hl
  generalize okR r.v = R at *
  generalize deedB r.lsn r.v = G at *
  generalize sameR (cutA r.lsn r).v r.v = M at *
  have HN : Hid (∀ u, Calls _ _ _ _ _) := fun u => recOf_any r.lsn r u
  generalize deedV r = D at *
  generalize cutA r.lsn r = cc at *
  simp only [RecA.cells] at *
  have HC : Hid (∀ w', Box w' w.heap.size [.int .i64 r.lsn, .int .i64 r.tx, .int .i64 r.prev, .int .i64 r.kind, .int .i64 r.oid, .bool r.bf.v.has, .int .i64 r.bf.v.o.kind, .slice r.bf.aI r.bf.v.o.ints.length r.bf.cI, .slice r.bf.aR r.bf.v.o.refs.length r.bf.cR, .bool r.af.v.has, .int .i64 r.af.v.o.kind, .slice r.af.aI r.af.v.o.ints.length r.af.cI, .slice r.af.aR r.af.v.o.refs.length r.af.cR, .int .i64 r.next, .slice r.aL r.txs.length r.cL] 31 → w'.cell? ⟨w.heap.size, 0, none⟩ = some (.int .i64 r.lsn) ∧ w'.cell? ⟨w.heap.size, 1, none⟩ = some (.int .i64 r.tx) ∧ w'.cell? ⟨w.heap.size, 2, none⟩ = some (.int .i64 r.prev) ∧ w'.cell? ⟨w.heap.size, 3, none⟩ = some (.int .i64 r.kind) ∧ w'.cell? ⟨w.heap.size, 4, none⟩ = some (.int .i64 r.oid) ∧ w'.cell? ⟨w.heap.size, 5, none⟩ = some (.bool r.bf.v.has) ∧ w'.cell? ⟨w.heap.size, 6, none⟩ = some (.int .i64 r.bf.v.o.kind) ∧ w'.cell? ⟨w.heap.size, 7, none⟩ = some (.slice r.bf.aI r.bf.v.o.ints.length r.bf.cI) ∧ w'.cell? ⟨w.heap.size, 8, none⟩ = some (.slice r.bf.aR r.bf.v.o.refs.length r.bf.cR) ∧ w'.cell? ⟨w.heap.size, 9, none⟩ = some (.bool r.af.v.has) ∧ w'.cell? ⟨w.heap.size, 10, none⟩ = some (.int .i64 r.af.v.o.kind) ∧ w'.cell? ⟨w.heap.size, 11, none⟩ = some (.slice r.af.aI r.af.v.o.ints.length r.af.cI) ∧ w'.cell? ⟨w.heap.size, 12, none⟩ = some (.slice r.af.aR r.af.v.o.refs.length r.af.cR) ∧ w'.cell? ⟨w.heap.size, 13, none⟩ = some (.int .i64 r.next) ∧ w'.cell? ⟨w.heap.size, 14, none⟩ = some (.slice r.aL r.txs.length r.cL)) := fun w' b => fifteen b
  obtain ⟨x0, x1, x2, x3, x4, x5, x6, x7, x8, x9, x10, x11, x12, x13, x14⟩ := HC.out W b0
  clear hsW b0 hg hr hl
  go_enter Tryd.func11, Tryd.ntmps11
  go_wp2_with fail
  rw [hW.out]
  clear hW
  refine C1.mono ?_
  clear C1 x0 x1 x2 x3 x4 x5 x6 x7 x8 x9 x10 x11 x12 x13 x14
  rintro e w1 ⟨rfl, hb1⟩
  have B1 : Below w.heap.size w w1 := hbW.trans (hb1.mono hbW.size)
  have hh := HC.out w1 (HX.out _ hb1)
  by_cases h1 : 1 ≤ r.lsn
  case neg =>
    have HR : Hid (R = false) := by rw [Hid, HZ.out]; simp [inB]; omega
    have hd : decide (1 ≤ r.lsn) = false := by simp; omega
    clear HZ HD HM HN h1
    go_wp2_with fail
    obtain ⟨x0, x1, x2, x3, x4, x5, x6, x7, x8, x9, x10, x11, x12, x13, x14⟩ := hh
    go_quiet (fail)
    go_wp2
    go_ret
    exact ⟨ret_bool HR.out.symm, below_drewN B1 _⟩
  case pos =>
  by_cases h2 : r.lsn ≤ 1000000
  case neg =>
    have HR : Hid (R = false) := by rw [Hid, HZ.out]; simp [inB]; omega
    have hd : decide (1 ≤ r.lsn) = true := by simp; omega
    have hd2 : decide (r.lsn ≤ 1000000) = false := by simp; omega
    clear HZ HD HM HN h1 h2
    go_wp2_with fail
    obtain ⟨x0, x1, x2, x3, x4, x5, x6, x7, x8, x9, x10, x11, x12, x13, x14⟩ := hh
    go_quiet (fail)
    go_wp2
    go_ret
    exact ⟨ret_bool HR.out.symm, below_drewN B1 _⟩
  case pos =>
  have h12 : inB r.lsn 1 1000000 = true := by simp [inB]; omega
  cases G with
  | false =>
    have HR : Hid (R = false) := by rw [Hid, HZ.out]; simp
    clear HZ HM HN h12
    go_wp2_with fail
    refine wp_region_held_drew (S := fun w' => w'.cell? ⟨w.heap.size, 0, none⟩ = some (.int .i64 r.lsn) ∧ w'.cell? ⟨w.heap.size, 1, none⟩ = some (.int .i64 r.tx) ∧ w'.cell? ⟨w.heap.size, 2, none⟩ = some (.int .i64 r.prev) ∧ w'.cell? ⟨w.heap.size, 3, none⟩ = some (.int .i64 r.kind) ∧ w'.cell? ⟨w.heap.size, 4, none⟩ = some (.int .i64 r.oid) ∧ w'.cell? ⟨w.heap.size, 5, none⟩ = some (.bool r.bf.v.has) ∧ w'.cell? ⟨w.heap.size, 6, none⟩ = some (.int .i64 r.bf.v.o.kind) ∧ w'.cell? ⟨w.heap.size, 7, none⟩ = some (.slice r.bf.aI r.bf.v.o.ints.length r.bf.cI) ∧ w'.cell? ⟨w.heap.size, 8, none⟩ = some (.slice r.bf.aR r.bf.v.o.refs.length r.bf.cR) ∧ w'.cell? ⟨w.heap.size, 9, none⟩ = some (.bool r.af.v.has) ∧ w'.cell? ⟨w.heap.size, 10, none⟩ = some (.int .i64 r.af.v.o.kind) ∧ w'.cell? ⟨w.heap.size, 11, none⟩ = some (.slice r.af.aI r.af.v.o.ints.length r.af.cI) ∧ w'.cell? ⟨w.heap.size, 12, none⟩ = some (.slice r.af.aR r.af.v.o.refs.length r.af.cR) ∧ w'.cell? ⟨w.heap.size, 13, none⟩ = some (.int .i64 r.next) ∧ w'.cell? ⟨w.heap.size, 14, none⟩ = some (.slice r.aL r.txs.length r.cL)) (by kernel_rfl) (HC.out _ (HX.out _ hb1.drew)) (fun hHeld => ?_)
    refine wpAnyH_take (i := 0) (v := .pointer (some ⟨w.heap.size, 0, none⟩)) rfl (by kernel_rfl) (by kernel_rfl) (by kernel_rfl) (fun _ _ _ h => h) (Or.inl ⟨by rfl, ?_⟩) hHeld ?_
    · intro w' hSw
      go_simp <;> rfl
    try simp only [Act.put, List.getElem_toArray, List.getElem_cons_zero, List.setIfInBounds_toArray, List.set_cons_zero, List.set_cons_succ]
    refine wpAnyH_take (i := 1) (v := .int .i64 r.lsn) rfl (by kernel_rfl) (by kernel_rfl) (by kernel_rfl) (fun _ _ _ h => h) (Or.inl ⟨by rfl, ?_⟩) hHeld ?_
    · intro w' hSw
      go_simp <;> rfl
    try simp only [Act.put, List.getElem_toArray, List.getElem_cons_zero, List.getElem_cons_succ, List.setIfInBounds_toArray, List.set_cons_zero, List.set_cons_succ]
    refine wpAnyH_take (i := 2) (v := .bool true) rfl (by kernel_rfl) (by kernel_rfl) (by kernel_rfl) (fun _ _ _ h => h) (Or.inl ⟨by rfl, ?_⟩) hHeld ?_
    · intro w' hSw
      go_simp <;> rfl
    try simp only [Act.put, List.getElem_toArray, List.getElem_cons_zero, List.getElem_cons_succ, List.setIfInBounds_toArray, List.set_cons_zero, List.set_cons_succ]
    refine wpAnyH_take (i := 3) (v := .bool true) rfl (by kernel_rfl) (by kernel_rfl) (by kernel_rfl) (fun _ _ _ h => h) (Or.inl ⟨by rfl, ?_⟩) hHeld ?_
    · intro w' hSw
      go_simp <;> rfl
    try simp only [Act.put, List.getElem_toArray, List.getElem_cons_zero, List.getElem_cons_succ, List.setIfInBounds_toArray, List.set_cons_zero, List.set_cons_succ]
    refine wpAnyH_take (i := 4) (v := .pointer (some ⟨w.heap.size, 0, none⟩)) rfl (by kernel_rfl) (by kernel_rfl) (by kernel_rfl) (fun _ _ _ h => h) (Or.inl ⟨by rfl, ?_⟩) hHeld ?_
    · intro w' hSw
      go_simp <;> rfl
    try simp only [Act.put, List.getElem_toArray, List.getElem_cons_zero, List.getElem_cons_succ, List.setIfInBounds_toArray, List.set_cons_zero, List.set_cons_succ]
    refine wpAnyH_take (i := 5) (v := .int .i64 r.lsn) rfl (by kernel_rfl) (by kernel_rfl) (by kernel_rfl) (fun _ _ _ h => h) (Or.inl ⟨by rfl, ?_⟩) hHeld ?_
    · intro w' hSw
      go_simp <;> rfl
    try simp only [Act.put, List.getElem_toArray, List.getElem_cons_zero, List.getElem_cons_succ, List.setIfInBounds_toArray, List.set_cons_zero, List.set_cons_succ]
    refine wpAnyH_take (i := 6) (v := .bool true) rfl (by kernel_rfl) (by kernel_rfl) (by kernel_rfl) (fun _ _ _ h => h) (Or.inl ⟨by rfl, ?_⟩) hHeld ?_
    · intro w' hSw
      go_simp <;> rfl
    try simp only [Act.put, List.getElem_toArray, List.getElem_cons_zero, List.getElem_cons_succ, List.setIfInBounds_toArray, List.set_cons_zero, List.set_cons_succ]
    refine wpAnyH_take (i := 7) (v := .bool true) rfl (by kernel_rfl) (by kernel_rfl) (by kernel_rfl) (fun _ _ _ h => h) (Or.inl ⟨by rfl, ?_⟩) hHeld ?_
    · intro w' hSw
      go_simp <;> rfl
    try simp only [Act.put, List.getElem_toArray, List.getElem_cons_zero, List.getElem_cons_succ, List.setIfInBounds_toArray, List.set_cons_zero, List.set_cons_succ]
    refine wpAnyH_take (i := 8) (v := .bool true) rfl (by kernel_rfl) (by kernel_rfl) (by kernel_rfl) (fun _ _ _ h => h) (Or.inl ⟨by rfl, ?_⟩) hHeld ?_
    · intro w' hSw
      go_simp <;> rfl
    try simp only [Act.put, List.getElem_toArray, List.getElem_cons_zero, List.getElem_cons_succ, List.setIfInBounds_toArray, List.set_cons_zero, List.set_cons_succ]
    refine wpAnyH_take (i := 9) (v := .pointer (some ⟨w.heap.size, 0, none⟩)) rfl (by kernel_rfl) (by kernel_rfl) (by kernel_rfl) (fun _ _ _ h => h) (Or.inl ⟨by rfl, ?_⟩) hHeld ?_
    · intro w' hSw
      go_simp <;> rfl
    try simp only [Act.put, List.getElem_toArray, List.getElem_cons_zero, List.getElem_cons_succ, List.setIfInBounds_toArray, List.set_cons_zero, List.set_cons_succ]
    refine wpAnyH_take (i := 10) (v := .int .i64 r.lsn) rfl (by kernel_rfl) (by kernel_rfl) (by kernel_rfl) (fun _ _ _ h => h) (Or.inl ⟨by rfl, ?_⟩) hHeld ?_
    · intro w' hSw
      go_simp <;> rfl
    try simp only [Act.put, List.getElem_toArray, List.getElem_cons_zero, List.getElem_cons_succ, List.setIfInBounds_toArray, List.set_cons_zero, List.set_cons_succ]
    refine wpAnyH_take (i := 11) (v := D) rfl (by kernel_rfl) (by kernel_rfl) (by kernel_rfl) (fun _ _ _ h => h) (Or.inl ⟨by rfl, ?_⟩) hHeld ?_
    · intro w' hSw
      go_simp <;> rfl
    try simp only [Act.put, List.getElem_toArray, List.getElem_cons_zero, List.getElem_cons_succ, List.setIfInBounds_toArray, List.set_cons_zero, List.set_cons_succ]
    refine wpAnyH_ready (rs := [12]) (by kernel_rfl) (by simp) ?_
    refine AllReadyH.cons rfl (fun K hK => ?_) AllReadyH.nil
    go_simp
    refine (HD.out _ B1.drew).mono ?_
    rintro e u2 ⟨rfl, hbu2⟩
    have hBu2 : Below W.heap.size W u2 := (hb1.drew).trans (hbu2.mono (hb1.drew).size)
    refine hK.out _ _ (HC.out _ (HX.out _ hBu2)) (fun hHeld => ?_)
    clear hK K
    try simp only [Act.put, List.getElem_toArray, List.getElem_cons_zero, List.getElem_cons_succ, List.setIfInBounds_toArray, List.set_cons_zero, List.set_cons_succ]
    refine wpAnyH_take (i := 13) (v := .bool false) rfl (by kernel_rfl) (by kernel_rfl) (by kernel_rfl) (fun _ _ _ h => h) (Or.inl ⟨by rfl, ?_⟩) hHeld ?_
    · intro w' hSw
      go_simp <;> rfl
    try simp only [Act.put, List.getElem_toArray, List.getElem_cons_zero, List.getElem_cons_succ, List.setIfInBounds_toArray, List.set_cons_zero, List.set_cons_succ]
    refine wpAnyH_take (i := 14) (v := .bool false) rfl (by kernel_rfl) (by kernel_rfl) (by kernel_rfl) (fun _ _ _ h => h) (Or.inl ⟨by rfl, ?_⟩) hHeld ?_
    · intro w' hSw
      go_simp <;> rfl
    try simp only [Act.put, List.getElem_toArray, List.getElem_cons_zero, List.getElem_cons_succ, List.setIfInBounds_toArray, List.set_cons_zero, List.set_cons_succ]
    refine wpAnyH_take (i := 15) (v := undef) rfl (by kernel_rfl) (by kernel_rfl) (by kernel_rfl) (fun _ _ _ h => h) (Or.inr ⟨by rfl, rfl⟩) hHeld ?_
    try simp only [Act.put, List.getElem_toArray, List.getElem_cons_zero, List.getElem_cons_succ, List.setIfInBounds_toArray, List.set_cons_zero, List.set_cons_succ]
    refine wpAnyH_take (i := 16) (v := undef) rfl (by kernel_rfl) (by kernel_rfl) (by kernel_rfl) (fun _ _ _ h => h) (Or.inr ⟨by rfl, rfl⟩) hHeld ?_
    try simp only [Act.put, List.getElem_toArray, List.getElem_cons_zero, List.getElem_cons_succ, List.setIfInBounds_toArray, List.set_cons_zero, List.set_cons_succ]
    refine wpAnyH_take (i := 17) (v := undef) rfl (by kernel_rfl) (by kernel_rfl) (by kernel_rfl) (fun _ _ _ h => h) (Or.inr ⟨by rfl, rfl⟩) hHeld ?_
    try simp only [Act.put, List.getElem_toArray, List.getElem_cons_zero, List.getElem_cons_succ, List.setIfInBounds_toArray, List.set_cons_zero, List.set_cons_succ]
    refine wpAnyH_take (i := 18) (v := undef) rfl (by kernel_rfl) (by kernel_rfl) (by kernel_rfl) (fun _ _ _ h => h) (Or.inr ⟨by rfl, rfl⟩) hHeld ?_
    try simp only [Act.put, List.getElem_toArray, List.getElem_cons_zero, List.getElem_cons_succ, List.setIfInBounds_toArray, List.set_cons_zero, List.set_cons_succ]
    refine wpAnyH_take (i := 19) (v := undef) rfl (by kernel_rfl) (by kernel_rfl) (by kernel_rfl) (fun _ _ _ h => h) (Or.inr ⟨by rfl, rfl⟩) hHeld ?_
    try simp only [Act.put, List.getElem_toArray, List.getElem_cons_zero, List.getElem_cons_succ, List.setIfInBounds_toArray, List.set_cons_zero, List.set_cons_succ]
    refine wpAnyH_take (i := 20) (v := undef) rfl (by kernel_rfl) (by kernel_rfl) (by kernel_rfl) (fun _ _ _ h => h) (Or.inr ⟨by rfl, rfl⟩) hHeld ?_
    try simp only [Act.put, List.getElem_toArray, List.getElem_cons_zero, List.getElem_cons_succ, List.setIfInBounds_toArray, List.set_cons_zero, List.set_cons_succ]
    refine wpAnyH_take (i := 21) (v := .bool false) rfl (by kernel_rfl) (by kernel_rfl) (by kernel_rfl) (fun _ _ _ h => h) (Or.inl ⟨by rfl, ?_⟩) hHeld ?_
    · intro w' hSw
      go_simp <;> rfl
    try simp only [Act.put, List.getElem_toArray, List.getElem_cons_zero, List.getElem_cons_succ, List.setIfInBounds_toArray, List.set_cons_zero, List.set_cons_succ]
    refine wpAnyH_take (i := 22) (v := .bool false) rfl (by kernel_rfl) (by kernel_rfl) (by kernel_rfl) (fun _ _ _ h => h) (Or.inl ⟨by rfl, ?_⟩) hHeld ?_
    · intro w' hSw
      go_simp <;> rfl
    try simp only [Act.put, List.getElem_toArray, List.getElem_cons_zero, List.getElem_cons_succ, List.setIfInBounds_toArray, List.set_cons_zero, List.set_cons_succ]
    refine wpAnyH_done (by kernel_rfl) ?_ _
    go_wp2
    go_ret
    exact ⟨ret_bool HR.out.symm, hbW.trans (hBu2.mono hbW.size)⟩
  | true =>
    have HR : Hid (R = M) := by rw [Hid, HZ.out, h12]; simp
    clear HZ h12
    go_wp2_with fail
    refine wp_region_held_drew (S := fun w' => w'.cell? ⟨w.heap.size, 0, none⟩ = some (.int .i64 r.lsn) ∧ w'.cell? ⟨w.heap.size, 1, none⟩ = some (.int .i64 r.tx) ∧ w'.cell? ⟨w.heap.size, 2, none⟩ = some (.int .i64 r.prev) ∧ w'.cell? ⟨w.heap.size, 3, none⟩ = some (.int .i64 r.kind) ∧ w'.cell? ⟨w.heap.size, 4, none⟩ = some (.int .i64 r.oid) ∧ w'.cell? ⟨w.heap.size, 5, none⟩ = some (.bool r.bf.v.has) ∧ w'.cell? ⟨w.heap.size, 6, none⟩ = some (.int .i64 r.bf.v.o.kind) ∧ w'.cell? ⟨w.heap.size, 7, none⟩ = some (.slice r.bf.aI r.bf.v.o.ints.length r.bf.cI) ∧ w'.cell? ⟨w.heap.size, 8, none⟩ = some (.slice r.bf.aR r.bf.v.o.refs.length r.bf.cR) ∧ w'.cell? ⟨w.heap.size, 9, none⟩ = some (.bool r.af.v.has) ∧ w'.cell? ⟨w.heap.size, 10, none⟩ = some (.int .i64 r.af.v.o.kind) ∧ w'.cell? ⟨w.heap.size, 11, none⟩ = some (.slice r.af.aI r.af.v.o.ints.length r.af.cI) ∧ w'.cell? ⟨w.heap.size, 12, none⟩ = some (.slice r.af.aR r.af.v.o.refs.length r.af.cR) ∧ w'.cell? ⟨w.heap.size, 13, none⟩ = some (.int .i64 r.next) ∧ w'.cell? ⟨w.heap.size, 14, none⟩ = some (.slice r.aL r.txs.length r.cL)) (by kernel_rfl) (HC.out _ (HX.out _ hb1.drew)) (fun hHeld => ?_)
    refine wpAnyH_take (i := 0) (v := .pointer (some ⟨w.heap.size, 0, none⟩)) rfl (by kernel_rfl) (by kernel_rfl) (by kernel_rfl) (fun _ _ _ h => h) (Or.inl ⟨by rfl, ?_⟩) hHeld ?_
    · intro w' hSw
      go_simp <;> rfl
    try simp only [Act.put, List.getElem_toArray, List.getElem_cons_zero, List.setIfInBounds_toArray, List.set_cons_zero, List.set_cons_succ]
    refine wpAnyH_take (i := 1) (v := .int .i64 r.lsn) rfl (by kernel_rfl) (by kernel_rfl) (by kernel_rfl) (fun _ _ _ h => h) (Or.inl ⟨by rfl, ?_⟩) hHeld ?_
    · intro w' hSw
      go_simp <;> rfl
    try simp only [Act.put, List.getElem_toArray, List.getElem_cons_zero, List.getElem_cons_succ, List.setIfInBounds_toArray, List.set_cons_zero, List.set_cons_succ]
    refine wpAnyH_take (i := 2) (v := .bool true) rfl (by kernel_rfl) (by kernel_rfl) (by kernel_rfl) (fun _ _ _ h => h) (Or.inl ⟨by rfl, ?_⟩) hHeld ?_
    · intro w' hSw
      go_simp <;> rfl
    try simp only [Act.put, List.getElem_toArray, List.getElem_cons_zero, List.getElem_cons_succ, List.setIfInBounds_toArray, List.set_cons_zero, List.set_cons_succ]
    refine wpAnyH_take (i := 3) (v := .bool true) rfl (by kernel_rfl) (by kernel_rfl) (by kernel_rfl) (fun _ _ _ h => h) (Or.inl ⟨by rfl, ?_⟩) hHeld ?_
    · intro w' hSw
      go_simp <;> rfl
    try simp only [Act.put, List.getElem_toArray, List.getElem_cons_zero, List.getElem_cons_succ, List.setIfInBounds_toArray, List.set_cons_zero, List.set_cons_succ]
    refine wpAnyH_take (i := 4) (v := .pointer (some ⟨w.heap.size, 0, none⟩)) rfl (by kernel_rfl) (by kernel_rfl) (by kernel_rfl) (fun _ _ _ h => h) (Or.inl ⟨by rfl, ?_⟩) hHeld ?_
    · intro w' hSw
      go_simp <;> rfl
    try simp only [Act.put, List.getElem_toArray, List.getElem_cons_zero, List.getElem_cons_succ, List.setIfInBounds_toArray, List.set_cons_zero, List.set_cons_succ]
    refine wpAnyH_take (i := 5) (v := .int .i64 r.lsn) rfl (by kernel_rfl) (by kernel_rfl) (by kernel_rfl) (fun _ _ _ h => h) (Or.inl ⟨by rfl, ?_⟩) hHeld ?_
    · intro w' hSw
      go_simp <;> rfl
    try simp only [Act.put, List.getElem_toArray, List.getElem_cons_zero, List.getElem_cons_succ, List.setIfInBounds_toArray, List.set_cons_zero, List.set_cons_succ]
    refine wpAnyH_take (i := 6) (v := .bool true) rfl (by kernel_rfl) (by kernel_rfl) (by kernel_rfl) (fun _ _ _ h => h) (Or.inl ⟨by rfl, ?_⟩) hHeld ?_
    · intro w' hSw
      go_simp <;> rfl
    try simp only [Act.put, List.getElem_toArray, List.getElem_cons_zero, List.getElem_cons_succ, List.setIfInBounds_toArray, List.set_cons_zero, List.set_cons_succ]
    refine wpAnyH_take (i := 7) (v := .bool true) rfl (by kernel_rfl) (by kernel_rfl) (by kernel_rfl) (fun _ _ _ h => h) (Or.inl ⟨by rfl, ?_⟩) hHeld ?_
    · intro w' hSw
      go_simp <;> rfl
    try simp only [Act.put, List.getElem_toArray, List.getElem_cons_zero, List.getElem_cons_succ, List.setIfInBounds_toArray, List.set_cons_zero, List.set_cons_succ]
    refine wpAnyH_take (i := 8) (v := .bool true) rfl (by kernel_rfl) (by kernel_rfl) (by kernel_rfl) (fun _ _ _ h => h) (Or.inl ⟨by rfl, ?_⟩) hHeld ?_
    · intro w' hSw
      go_simp <;> rfl
    try simp only [Act.put, List.getElem_toArray, List.getElem_cons_zero, List.getElem_cons_succ, List.setIfInBounds_toArray, List.set_cons_zero, List.set_cons_succ]
    refine wpAnyH_take (i := 9) (v := .pointer (some ⟨w.heap.size, 0, none⟩)) rfl (by kernel_rfl) (by kernel_rfl) (by kernel_rfl) (fun _ _ _ h => h) (Or.inl ⟨by rfl, ?_⟩) hHeld ?_
    · intro w' hSw
      go_simp <;> rfl
    try simp only [Act.put, List.getElem_toArray, List.getElem_cons_zero, List.getElem_cons_succ, List.setIfInBounds_toArray, List.set_cons_zero, List.set_cons_succ]
    refine wpAnyH_take (i := 10) (v := .int .i64 r.lsn) rfl (by kernel_rfl) (by kernel_rfl) (by kernel_rfl) (fun _ _ _ h => h) (Or.inl ⟨by rfl, ?_⟩) hHeld ?_
    · intro w' hSw
      go_simp <;> rfl
    try simp only [Act.put, List.getElem_toArray, List.getElem_cons_zero, List.getElem_cons_succ, List.setIfInBounds_toArray, List.set_cons_zero, List.set_cons_succ]
    refine wpAnyH_take (i := 11) (v := D) rfl (by kernel_rfl) (by kernel_rfl) (by kernel_rfl) (fun _ _ _ h => h) (Or.inl ⟨by rfl, ?_⟩) hHeld ?_
    · intro w' hSw
      go_simp <;> rfl
    try simp only [Act.put, List.getElem_toArray, List.getElem_cons_zero, List.getElem_cons_succ, List.setIfInBounds_toArray, List.set_cons_zero, List.set_cons_succ]
    refine wpAnyH_ready (rs := [12]) (by kernel_rfl) (by simp) ?_
    refine AllReadyH.cons rfl (fun K hK => ?_) AllReadyH.nil
    go_simp
    refine (HD.out _ B1.drew).mono ?_
    rintro e u2 ⟨rfl, hbu2⟩
    have hBu2 : Below W.heap.size W u2 := (hb1.drew).trans (hbu2.mono (hb1.drew).size)
    refine hK.out _ _ (HC.out _ (HX.out _ hBu2)) (fun hHeld => ?_)
    clear hK K
    try simp only [Act.put, List.getElem_toArray, List.getElem_cons_zero, List.getElem_cons_succ, List.setIfInBounds_toArray, List.set_cons_zero, List.set_cons_succ]
    refine wpAnyH_take (i := 13) (v := .bool true) rfl (by kernel_rfl) (by kernel_rfl) (by kernel_rfl) (fun _ _ _ h => h) (Or.inl ⟨by rfl, ?_⟩) hHeld ?_
    · intro w' hSw
      go_simp <;> rfl
    try simp only [Act.put, List.getElem_toArray, List.getElem_cons_zero, List.getElem_cons_succ, List.setIfInBounds_toArray, List.set_cons_zero, List.set_cons_succ]
    refine wpAnyH_take (i := 14) (v := .bool true) rfl (by kernel_rfl) (by kernel_rfl) (by kernel_rfl) (fun _ _ _ h => h) (Or.inl ⟨by rfl, ?_⟩) hHeld ?_
    · intro w' hSw
      go_simp <;> rfl
    try simp only [Act.put, List.getElem_toArray, List.getElem_cons_zero, List.getElem_cons_succ, List.setIfInBounds_toArray, List.set_cons_zero, List.set_cons_succ]
    refine wpAnyH_take (i := 15) (v := .pointer (some ⟨w.heap.size, 0, none⟩)) rfl (by kernel_rfl) (by kernel_rfl) (by kernel_rfl) (fun _ _ _ h => h) (Or.inl ⟨by rfl, ?_⟩) hHeld ?_
    · intro w' hSw
      go_simp <;> rfl
    try simp only [Act.put, List.getElem_toArray, List.getElem_cons_zero, List.getElem_cons_succ, List.setIfInBounds_toArray, List.set_cons_zero, List.set_cons_succ]
    refine wpAnyH_take (i := 16) (v := .int .i64 r.lsn) rfl (by kernel_rfl) (by kernel_rfl) (by kernel_rfl) (fun _ _ _ h => h) (Or.inl ⟨by rfl, ?_⟩) hHeld ?_
    · intro w' hSw
      go_simp <;> rfl
    try simp only [Act.put, List.getElem_toArray, List.getElem_cons_zero, List.getElem_cons_succ, List.setIfInBounds_toArray, List.set_cons_zero, List.set_cons_succ]
    refine wpAnyH_take (i := 17) (v := D) rfl (by kernel_rfl) (by kernel_rfl) (by kernel_rfl) (fun _ _ _ h => h) (Or.inl ⟨by rfl, ?_⟩) hHeld ?_
    · intro w' hSw
      go_simp <;> rfl
    try simp only [Act.put, List.getElem_toArray, List.getElem_cons_zero, List.getElem_cons_succ, List.setIfInBounds_toArray, List.set_cons_zero, List.set_cons_succ]
    refine wpAnyH_take (i := 19) (v := .agg #[.int .i64 r.lsn, .int .i64 r.tx, .int .i64 r.prev, .int .i64 r.kind, .int .i64 r.oid, .bool r.bf.v.has, .int .i64 r.bf.v.o.kind, .slice r.bf.aI r.bf.v.o.ints.length r.bf.cI, .slice r.bf.aR r.bf.v.o.refs.length r.bf.cR, .bool r.af.v.has, .int .i64 r.af.v.o.kind, .slice r.af.aI r.af.v.o.ints.length r.af.cI, .slice r.af.aR r.af.v.o.refs.length r.af.cR, .int .i64 r.next, .slice r.aL r.txs.length r.cL]) rfl (by kernel_rfl) (by kernel_rfl) (by kernel_rfl) (fun _ _ _ h => h) (Or.inl ⟨by rfl, ?_⟩) hHeld ?_
    · intro w' hSw
      go_simp <;> rfl
    try simp only [Act.put, List.getElem_toArray, List.getElem_cons_zero, List.getElem_cons_succ, List.setIfInBounds_toArray, List.set_cons_zero, List.set_cons_succ]
    refine wpAnyH_ready (rs := [18]) (by kernel_rfl) (by simp) ?_
    refine AllReadyH.cons rfl (fun K hK => ?_) AllReadyH.nil
    go_simp
    refine (HN.out _).mono ?_
    rintro e u3 ⟨rfl, hbu3⟩
    have hBu3 : Below W.heap.size W u3 := (hBu2).trans (hbu3.mono (hBu2).size)
    refine hK.out _ _ (HC.out _ (HX.out _ hBu3)) (fun hHeld => ?_)
    clear hK K
    try simp only [Act.put, List.getElem_toArray, List.getElem_cons_zero, List.getElem_cons_succ, List.setIfInBounds_toArray, List.set_cons_zero, List.set_cons_succ]
    refine wpAnyH_ready (rs := [20]) (by kernel_rfl) (by simp) ?_
    refine AllReadyH.cons rfl (fun K hK => ?_) AllReadyH.nil
    go_simp
    refine (HM.out _ (hbW.trans (hBu3.mono hbW.size))).mono ?_
    rintro e u4 ⟨rfl, hbu4⟩
    have hBu4 : Below W.heap.size W u4 := (hBu3).trans (hbu4.mono (hBu3).size)
    refine hK.out _ _ (HC.out _ (HX.out _ hBu4)) (fun hHeld => ?_)
    clear hK K
    try simp only [Act.put, List.getElem_toArray, List.getElem_cons_zero, List.getElem_cons_succ, List.setIfInBounds_toArray, List.set_cons_zero, List.set_cons_succ]
    refine wpAnyH_take (i := 21) (v := .bool M) rfl (by kernel_rfl) (by kernel_rfl) (by kernel_rfl) (fun _ _ _ h => h) (Or.inl ⟨by rfl, ?_⟩) hHeld ?_
    · intro w' hSw
      go_simp <;> rfl
    try simp only [Act.put, List.getElem_toArray, List.getElem_cons_zero, List.getElem_cons_succ, List.setIfInBounds_toArray, List.set_cons_zero, List.set_cons_succ]
    refine wpAnyH_take (i := 22) (v := .bool M) rfl (by kernel_rfl) (by kernel_rfl) (by kernel_rfl) (fun _ _ _ h => h) (Or.inl ⟨by rfl, ?_⟩) hHeld ?_
    · intro w' hSw
      go_simp <;> rfl
    try simp only [Act.put, List.getElem_toArray, List.getElem_cons_zero, List.getElem_cons_succ, List.setIfInBounds_toArray, List.set_cons_zero, List.set_cons_succ]
    refine wpAnyH_done (by kernel_rfl) ?_ _
    go_wp2
    go_ret
    exact ⟨ret_bool HR.out.symm, hbW.trans (hBu4.mono hbW.size)⟩
end Go.Proofs.YtjaojcgfgkppgaaDoor

/- What came in, read: a slice of numbers, an object. -/
namespace Go.Proofs.YtjaojcgfgkppgaaDoor
open Go.ChangeShapes Go.WideShapes Go.ChangeAt Go.RowKit

def InI64 (z : Int) : Prop := -9223372036854775808 ≤ z ∧ z ≤ 9223372036854775807
theorem wf_i64 {z : Int} (h : (Lit.int .i64 z).wf = true) : InI64 z := by
  simp [Lit.wf, IntKind.min, IntKind.max, IntKind.signed, IntKind.bits] at h
  unfold InI64; omega

theorem some_at {α : Type} (xs : List α) (i : Nat) (h : i < xs.length) : ∃ y, xs[i]? = some y := ⟨_, List.getElem?_eq_getElem h⟩

section
variable {H : Type} {enc : TypeId × Value → H} {w : World} {base : Nat} {spare : Nat → Bool} {held : Bool}

theorem trod_ints {fuel : Nat} {cs : List Value} {x : DataW H × List MemPlace} (h : DataW.trod enc Tryd.prog w base spare held fuel 24 cs = some x) :
    ∃ (a : Option Addr) (c : Nat) (ns : List Int), cs = [.slice a ns.length c] ∧ ReadsI w a ns ∧ (a = none → c = 0) ∧ ns.length ≤ maxLen ∧ ∀ z ∈ ns, InI64 z := by
  rcases open_ints Tryd.underlying24 Tryd.underlying3 (by kernel_rfl) h with ⟨rfl, _⟩ | ⟨a, len, cap, zs, rfl, _, hl, hm, hz, _, hcell, hwf⟩
  · exact ⟨none, 0, [], rfl, fun h => absurd rfl h, fun _ => rfl, by simp, by simp⟩
  · have hlz : len ≤ zs.length := by rw [hz]; split <;> omega
    refine ⟨some a, cap, zs.take len, by simp; omega, ?_, (fun h => by cases h), by simp; omega, fun z hzz => wf_i64 (hwf z (List.mem_of_mem_take hzz))⟩
    intro hne
    have hpos := List.length_pos_iff.2 hne
    simp at hpos
    obtain ⟨b, off, spot⟩ := a
    have hc0 := hcell 0 (by omega)
    have hspot : spot = none := by simpa [Addr.add] using World.cell?_spot hc0
    subst hspot
    refine ⟨b, off, rfl, fun i hi => ?_⟩
    have hi' : i < len := by simp at hi; omega
    have := hcell i (by omega)
    have e : (List.take len zs).getD i 0 = zs.getD i 0 := by simp [List.getD, hi']
    rw [e, ← Addr_add]
    exact this

theorem trod_num {fuel : Nat} {cs : List Value} {x : DataW H × List MemPlace} (h : DataW.trod enc Tryd.prog w base spare held fuel 3 cs = some x) : ∃ n : Int, cs = [.int .i64 n] ∧ InI64 n := by
  obtain ⟨n, rfl, _, hw⟩ := DataW.trod_int Tryd.underlying3 h
  exact ⟨n, rfl, wf_i64 hw⟩

theorem Tryd.cellsI : Tryd.prog.cellsOf 3 = 1 := by kernel_rfl
theorem Tryd.cellsIs : Tryd.prog.cellsOf 24 = 1 := by kernel_rfl
theorem Tryd.cellsO : Tryd.prog.cellsOf 47 = 3 := by kernel_rfl

set_option maxRecDepth 100000 in
theorem trod_obj {fuel : Nat} {cs : List Value} {x : DataW H × List MemPlace} (h : DataW.trod enc Tryd.prog w base spare held fuel 47 cs = some x) :
    ∃ (o : ObjV) (aI : Option Addr) (cI : Nat) (aR : Option Addr) (cR : Nat), cs = [.int .i64 o.kind, .slice aI o.ints.length cI, .slice aR o.refs.length cR] ∧ ReadsO w aI cI aR cR o ∧ o.ints.length ≤ maxLen ∧ o.refs.length ≤ maxLen ∧ InI64 o.kind ∧ (∀ z ∈ o.ints, InI64 z) ∧ (∀ z ∈ o.refs, InI64 z) := by
  obtain ⟨xs, n, _, _, hlen, hxl, hf⟩ := DataW.trod_struct Tryd.underlying47 h
  rw [Tryd.cellsO] at hlen
  match cs, hlen with
  | [v0, v1, v2], _ =>
    have f0 := hf 0 _ rfl
    have f1 := hf 1 _ rfl
    have f2 := hf 2 _ rfl
    obtain ⟨y0, hx0⟩ := some_at xs 0 (by rw [hxl]; decide)
    obtain ⟨y1, hx1⟩ := some_at xs 1 (by rw [hxl]; decide)
    obtain ⟨y2, hx2⟩ := some_at xs 2 (by rw [hxl]; decide)
    rw [hx0] at f0
    rw [hx1] at f1
    rw [hx2] at f2
    simp only [List.getElem_toArray, List.getElem_cons_zero, List.getElem_cons_succ, Tryd.cellsI, Tryd.cellsIs, List.drop, List.take] at f0 f1 f2
    obtain ⟨k, e0, wk⟩ := trod_num f0
    obtain ⟨aI, cI, ints, e1, hI, nI, lI, wI⟩ := trod_ints f1
    obtain ⟨aR, cR, refs, e2, hR, nR, lR, wR⟩ := trod_ints f2
    simp only [List.cons.injEq, and_true] at e0 e1 e2
    subst e0 e1 e2
    exact ⟨⟨k, ints, refs⟩, aI, cI, aR, cR, rfl, ⟨hI, hR, nI, nR⟩, lI, lR, wk, wI, wR⟩

set_option maxRecDepth 100000 in
/-- An object that came in as an argument. -/
theorem open_obj {b0 : Nat} {v : Value} {d : DataW H} {ps : List MemPlace} (hval : Value.okWide Tryd.prog w .any b0 47 v) (h : DataW.Trod enc Tryd.prog w base spare held 47 v d ps) :
    ∃ (o : ObjV) (aI : Option Addr) (cI : Nat) (aR : Option Addr) (cR : Nat), v = .agg #[.int .i64 o.kind, .slice aI o.ints.length cI, .slice aR o.refs.length cR] ∧ ReadsO w aI cI aR cR o ∧ o.ints.length ≤ maxLen ∧ o.refs.length ≤ maxLen ∧ InI64 o.kind ∧ (∀ z ∈ o.ints, InI64 z) ∧ (∀ z ∈ o.refs, InI64 z) := by
  obtain ⟨cs, rfl, hcs⟩ := okWide_struct Tryd.underlying47 hval
  obtain ⟨fuel, hf⟩ := h
  have e : (Value.agg cs).cells.toList = cs.toList := rfl
  rw [e] at hf
  obtain ⟨o, aI, cI, aR, cR, hc, rest⟩ := trod_obj hf
  refine ⟨o, aI, cI, aR, cR, ?_, rest⟩
  congr 1
  apply Array.toList_inj.1
  rw [hc]
end
end Go.Proofs.YtjaojcgfgkppgaaDoor

/- What came in, read: a slot, a page. -/
namespace Go.Proofs.YtjaojcgfgkppgaaDoor
open Go.ChangeShapes Go.WideShapes Go.ChangeAt Go.RowKit

/-- A slot as it came in: its lists are read, its numbers are 64-bit numbers. -/
structure InSlot (w : World) (s : SlotA) : Prop where
  reads : s.reads w
  lI : s.v.o.ints.length ≤ maxLen
  lR : s.v.o.refs.length ≤ maxLen
  kind : InI64 s.v.o.kind
  ints : ∀ z ∈ s.v.o.ints, InI64 z
  refs : ∀ z ∈ s.v.o.refs, InI64 z

section
variable {H : Type} {enc : TypeId × Value → H} {w : World} {base : Nat} {spare : Nat → Bool} {held : Bool}

theorem Tryd.cellsB : Tryd.prog.cellsOf 4 = 1 := by kernel_rfl
theorem Tryd.cellsSl : Tryd.prog.cellsOf 49 = 4 := by kernel_rfl
set_option maxRecDepth 100000 in
theorem trod_slot {fuel : Nat} {cs : List Value} {x : DataW H × List MemPlace} (h : DataW.trod enc Tryd.prog w base spare held fuel 49 cs = some x) :
    ∃ s : SlotA, cs = s.cells ∧ InSlot w s := by
  obtain ⟨xs, n, _, _, hlen, hxl, hf⟩ := DataW.trod_struct Tryd.underlying49 h
  rw [Tryd.cellsSl] at hlen
  match cs, hlen with
  | [v0, v1, v2, v3], _ =>
    have f0 := hf 0 _ rfl
    have f1 := hf 1 _ rfl
    obtain ⟨y0, hx0⟩ := some_at xs 0 (by rw [hxl]; decide)
    obtain ⟨y1, hx1⟩ := some_at xs 1 (by rw [hxl]; decide)
    rw [hx0] at f0
    rw [hx1] at f1
    simp only [List.getElem_toArray, List.getElem_cons_zero, List.getElem_cons_succ, Tryd.cellsB, Tryd.cellsO, List.drop, List.take] at f0 f1
    obtain ⟨b, e0, _⟩ := DataW.trod_bool Tryd.underlying4 f0
    obtain ⟨o, aI, cI, aR, cR, e1, hr, lI, lR, wk, wI, wR⟩ := trod_obj f1
    simp only [List.cons.injEq, and_true] at e0 e1
    obtain ⟨rfl, rfl, rfl⟩ := e1
    subst e0
    exact ⟨⟨⟨b, o⟩, aI, cI, aR, cR⟩, rfl, hr, lI, lR, wk, wI, wR⟩

theorem four_of (cs : List Value) (h : cs.length = 16) (f : ∀ i, i < 4 → ∃ s : SlotA, (cs.drop (i * 4)).take 4 = s.cells ∧ InSlot w s) : ∃ ss : List SlotA, ss.length = 4 ∧ cs = cellsS ss ∧ ∀ s ∈ ss, InSlot w s := by
  obtain ⟨s0, e0, h0⟩ := f 0 (by omega)
  obtain ⟨s1, e1, h1⟩ := f 1 (by omega)
  obtain ⟨s2, e2, h2⟩ := f 2 (by omega)
  obtain ⟨s3, e3, h3⟩ := f 3 (by omega)
  refine ⟨[s0, s1, s2, s3], rfl, ?_, ?_⟩
  · simp only [cellsS, List.flatMap_cons, List.flatMap_nil, List.append_nil, ← e0, ← e1, ← e2, ← e3]
    simp only [Nat.zero_mul, Nat.one_mul, List.drop_zero]
    have d : ∀ (l : List Value) (k : Nat), l.drop k = (l.drop k).take 4 ++ l.drop (k + 4) := fun l k => by rw [← List.drop_drop, List.take_append_drop]
    have a0 := d cs 0
    have a1 := d cs 4
    have a2 := d cs 8
    have a3 := d cs 12
    rw [List.drop_zero] at a0
    have a4 : cs.drop (12 + 4) = [] := List.drop_eq_nil_of_le (by omega)
    rw [a4, List.append_nil] at a3
    simp only [show 0 + 4 = 4 from rfl, show 4 + 4 = 8 from rfl, show 8 + 4 = 12 from rfl, show 2 * 4 = 8 from rfl, show 3 * 4 = 12 from rfl] at *
    conv => lhs; rw [a0, a1, a2, a3]
  · intro s hs
    simp only [List.mem_cons, List.not_mem_nil, or_false] at hs
    rcases hs with rfl | rfl | rfl | rfl <;> assumption

set_option maxRecDepth 100000 in
/-- A slot that came in as an argument. -/
theorem open_slot {b0 : Nat} {v : Value} {d : DataW H} {ps : List MemPlace} (hval : Value.okWide Tryd.prog w .any b0 49 v) (h : DataW.Trod enc Tryd.prog w base spare held 49 v d ps) :
    ∃ s : SlotA, v = .agg s.cells.toArray ∧ InSlot w s := by
  obtain ⟨cs, rfl, hcs⟩ := okWide_struct Tryd.underlying49 hval
  obtain ⟨fuel, hf⟩ := h
  have e : (Value.agg cs).cells.toList = cs.toList := rfl
  rw [e] at hf
  obtain ⟨s, hc, rest⟩ := trod_slot hf
  refine ⟨s, ?_, rest⟩
  congr 1
  apply Array.toList_inj.1
  rw [hc]
end
end Go.Proofs.YtjaojcgfgkppgaaDoor

/- What came in, read: a record. -/
namespace Go.Proofs.YtjaojcgfgkppgaaDoor
open Go.ChangeShapes Go.WideShapes Go.ChangeAt Go.RowKit

/-- A record as it came in: its lists are read, its numbers are 64-bit numbers. -/
structure InRec (w : World) (r : RecA) : Prop where
  bf : InSlot w r.bf
  af : InSlot w r.af
  txs : ReadsL w r.aL r.txs
  lT : r.txs.length ≤ maxLen
  nums : InI64 r.lsn ∧ InI64 r.tx ∧ InI64 r.prev ∧ InI64 r.kind ∧ InI64 r.oid ∧ InI64 r.next
theorem InRec.reads {w : World} {r : RecA} (h : InRec w r) : r.reads w := ⟨h.bf.reads, h.af.reads, h.txs⟩

section
variable {H : Type} {enc : TypeId × Value → H} {w : World} {base : Nat} {spare : Nat → Bool} {held : Bool}

theorem Tryd.cellsLv : Tryd.prog.cellsOf 134 = 3 := by kernel_rfl
theorem Tryd.cellsLvs : Tryd.prog.cellsOf 50 = 1 := by kernel_rfl
theorem Tryd.cellsRc : Tryd.prog.cellsOf 52 = 15 := by kernel_rfl

set_option maxRecDepth 100000 in
theorem trod_live {fuel : Nat} {cs : List Value} {x : DataW H × List MemPlace} (h : DataW.trod enc Tryd.prog w base spare held fuel 134 cs = some x) : ∃ t : LiveV, cs = t.cells := by
  obtain ⟨xs, n, _, _, hlen, hxl, hf⟩ := DataW.trod_struct Tryd.underlying134 h
  rw [Tryd.cellsLv] at hlen
  match cs, hlen with
  | [v0, v1, v2], _ =>
    have f0 := hf 0 _ rfl
    have f1 := hf 1 _ rfl
    have f2 := hf 2 _ rfl
    obtain ⟨y0, hx0⟩ := some_at xs 0 (by rw [hxl]; decide)
    obtain ⟨y1, hx1⟩ := some_at xs 1 (by rw [hxl]; decide)
    obtain ⟨y2, hx2⟩ := some_at xs 2 (by rw [hxl]; decide)
    rw [hx0] at f0
    rw [hx1] at f1
    rw [hx2] at f2
    simp only [List.getElem_toArray, List.getElem_cons_zero, List.getElem_cons_succ, Tryd.cellsB, Tryd.cellsI, List.drop, List.take] at f0 f1 f2
    obtain ⟨a, e0, _⟩ := trod_num f0
    obtain ⟨b, e1, _⟩ := trod_num f1
    obtain ⟨c, e2, _⟩ := DataW.trod_bool Tryd.underlying4 f2
    simp only [List.cons.injEq, and_true] at e0 e1 e2
    subst e0 e1 e2
    exact ⟨⟨a, b, c⟩, rfl⟩

set_option maxRecDepth 100000 in
theorem trod_lives {fuel : Nat} {cs : List Value} {x : DataW H × List MemPlace} (h : DataW.trod enc Tryd.prog w base spare held fuel 50 cs = some x) :
    ∃ (a : Option Addr) (c : Nat) (ls : List LiveV), cs = [.slice a ls.length c] ∧ ReadsL w a ls ∧ ls.length ≤ maxLen := by
  rcases DataW.trod_slice Tryd.underlying50 h with ⟨rfl, _⟩ | ⟨a, len, cap, elems, rest, n, _, rfl, _, _, hl, hm, hlen, hel, _, _⟩
  · exact ⟨none, 0, [], rfl, ReadsL.nil _ _, by simp⟩
  rw [Tryd.cellsLv] at hel
  have each : ∀ i, i < len → ∃ t : LiveV, w.cells? base (a.add (i * 3)) 3 = some t.cells := by
    intro i hi
    have hy := hel i hi
    rw [List.getElem?_eq_getElem (by omega : i < elems.length), Option.bind_eq_some_iff] at hy
    obtain ⟨cs', hcs, hy'⟩ := hy
    obtain ⟨t, e⟩ := trod_live hy'
    exact ⟨t, by rw [hcs, e]⟩
  obtain ⟨f, hf⟩ : ∃ f : Nat → LiveV, ∀ i, i < len → w.cells? base (a.add (i * 3)) 3 = some (f i).cells := by
    refine ⟨fun i => if h : i < len then (each i h).choose else zeroL, fun i hi => ?_⟩
    simp only [dif_pos hi]
    exact (each i hi).choose_spec
  refine ⟨some a, cap, (List.range len).map f, by simp, ?_, by simp; omega⟩
  intro hne
  have hpos := List.length_pos_iff.2 hne
  simp only [List.length_map, List.length_range] at hpos ⊢
  obtain ⟨b, off, spot⟩ := a
  have c0 := (World.cells?_some (hf 0 hpos)).2.2 0 (by decide)
  have hspot : spot = none := by simpa [Addr.add] using World.cell?_spot c0
  subst hspot
  refine ⟨b, off, rfl, fun k hk => ?_⟩
  have e : ((List.range len).map f).getD k zeroL = f k := by simp [List.getD, hk]
  rw [e]
  have hc := (World.cells?_some (hf k hk)).2.2
  have d0 := hc 0 (by decide)
  have d1 := hc 1 (by decide)
  have d2 := hc 2 (by decide)
  simp only [Addr_add, LiveV.cells] at d0 d1 d2
  exact ⟨by simpa using d0, by simpa using d1, by simpa using d2⟩

set_option maxRecDepth 100000 in
theorem trod_rec {fuel : Nat} {cs : List Value} {x : DataW H × List MemPlace} (h : DataW.trod enc Tryd.prog w base spare held fuel 52 cs = some x) :
    ∃ r : RecA, cs = r.cells ∧ InRec w r := by
  obtain ⟨xs, n, _, _, hlen, hxl, hf⟩ := DataW.trod_struct Tryd.underlying52 h
  rw [Tryd.cellsRc] at hlen
  match cs, hlen with
  | [v0, v1, v2, v3, v4, v5, v6, v7, v8, v9, v10, v11, v12, v13, v14], _ =>
    have f0 := hf 0 _ rfl
    have f1 := hf 1 _ rfl
    have f2 := hf 2 _ rfl
    have f3 := hf 3 _ rfl
    have f4 := hf 4 _ rfl
    have f5 := hf 5 _ rfl
    have f6 := hf 6 _ rfl
    have f7 := hf 7 _ rfl
    have f8 := hf 8 _ rfl
    obtain ⟨y0, hx0⟩ := some_at xs 0 (by rw [hxl]; decide)
    rw [hx0] at f0
    obtain ⟨y1, hx1⟩ := some_at xs 1 (by rw [hxl]; decide)
    rw [hx1] at f1
    obtain ⟨y2, hx2⟩ := some_at xs 2 (by rw [hxl]; decide)
    rw [hx2] at f2
    obtain ⟨y3, hx3⟩ := some_at xs 3 (by rw [hxl]; decide)
    rw [hx3] at f3
    obtain ⟨y4, hx4⟩ := some_at xs 4 (by rw [hxl]; decide)
    rw [hx4] at f4
    obtain ⟨y5, hx5⟩ := some_at xs 5 (by rw [hxl]; decide)
    rw [hx5] at f5
    obtain ⟨y6, hx6⟩ := some_at xs 6 (by rw [hxl]; decide)
    rw [hx6] at f6
    obtain ⟨y7, hx7⟩ := some_at xs 7 (by rw [hxl]; decide)
    rw [hx7] at f7
    obtain ⟨y8, hx8⟩ := some_at xs 8 (by rw [hxl]; decide)
    rw [hx8] at f8
    simp only [List.getElem_toArray, List.getElem_cons_zero, List.getElem_cons_succ, Tryd.cellsI, Tryd.cellsSl, Tryd.cellsLvs, List.drop, List.take] at f0 f1 f2 f3 f4 f5 f6 f7 f8
    obtain ⟨n0, e0, w0⟩ := trod_num f0
    obtain ⟨n1, e1, w1⟩ := trod_num f1
    obtain ⟨n2, e2, w2⟩ := trod_num f2
    obtain ⟨n3, e3, w3⟩ := trod_num f3
    obtain ⟨n4, e4, w4⟩ := trod_num f4
    obtain ⟨n5, e5, w5⟩ := trod_num f7
    obtain ⟨s, e6, hs⟩ := trod_slot f5
    obtain ⟨u, e7, hu⟩ := trod_slot f6
    obtain ⟨aL, cL, ls, e8, hL, lL⟩ := trod_lives f8
    simp only [SlotA.cells, List.cons.injEq, and_true] at e0 e1 e2 e3 e4 e5 e6 e7 e8
    obtain ⟨g0, g1, g2, g3⟩ := e6
    obtain ⟨k0, k1, k2, k3⟩ := e7
    subst e0 e1 e2 e3 e4 e5 e8 g0 g1 g2 g3 k0 k1 k2 k3
    exact ⟨⟨n0, n1, n2, n3, n4, s, u, n5, ls, aL, cL⟩, rfl, hs, hu, hL, lL, w0, w1, w2, w3, w4, w5⟩

set_option maxRecDepth 100000 in
/-- A record that came in as an argument. -/
theorem open_rec {b0 : Nat} {v : Value} {d : DataW H} {ps : List MemPlace} (hval : Value.okWide Tryd.prog w .any b0 52 v) (h : DataW.Trod enc Tryd.prog w base spare held 52 v d ps) :
    ∃ r : RecA, v = .agg r.cells.toArray ∧ InRec w r := by
  obtain ⟨cs, rfl, hcs⟩ := okWide_struct Tryd.underlying52 hval
  obtain ⟨fuel, hf⟩ := h
  have e : (Value.agg cs).cells.toList = cs.toList := rfl
  rw [e] at hf
  obtain ⟨r, hc, rest⟩ := trod_rec hf
  refine ⟨r, ?_, rest⟩
  congr 1
  apply Array.toList_inj.1
  rw [hc]
end
end Go.Proofs.YtjaojcgfgkppgaaDoor

/- What the laws of records share. -/
namespace Go.Proofs.YtjaojcgfgkppgaaDoor
open Go.RowKit

def zeroR : RecA := ⟨0, 0, 0, 0, 0, zeroS, zeroS, 0, [], none, 0⟩
theorem short_of {r t : RecA} {m : Nat} (h : t.v = r.v) (hl : r.short m) : t.short m := by
  simp only [RecA.v, RecV.mk.injEq] at h
  obtain ⟨_, _, _, _, _, h1, h2, _, h3⟩ := h
  exact ⟨by rw [h1]; exact hl.bf, by rw [h2]; exact hl.af, by rw [h3]; exact hl.txs⟩
theorem short_wide {r : RecA} (hl : r.short 1048576) : r.short 1099511627776 := ⟨by have := hl.bf; omega, by have := hl.af; omega, by have := hl.txs; omega⟩
theorem InRec.short {w : World} {r : RecA} (h : InRec w r) : r.short 9223372036854775807 := by
  have h1 := h.bf.lI
  have h2 := h.bf.lR
  have h3 := h.af.lI
  have h4 := h.af.lR
  have h5 := h.lT
  simp only [maxLen] at h1 h2 h3 h4 h5
  exact ⟨by omega, by omega, by omega⟩
theorem RecA.own.blocks_lt {w : World} {lo hi : Nat} {r : RecA} (h : r.own w lo hi) : ∀ k ∈ r.blocks, lo ≤ k ∧ k < hi := by
  intro k hk
  simp only [RecA.blocks, List.mem_append, Option.mem_toList] at hk
  rcases hk with h1 | h1 | h1
  · exact SlotA.blocks_lt h.bf k h1
  · exact SlotA.blocks_lt h.af k h1
  · exact h.txs.lt k h1
theorem toRec_law (r : RecA) (w : World) (hr : r.reads w) (hl : r.short 1048576) :
    Calls Tryd.prog 20 #[.agg r.cells.toArray] w fun e w' => ∃ t : RecA, e = .returned (.agg t.cells.toArray) ∧ Hid (t.v = r.v) ∧ t.own w' w.heap.size w'.heap.size ∧ Below w.heap.size w w' :=
  toRec_own r w hr (short_wide hl).bf (short_wide hl).af (short_wide hl).txs
theorem putRec_len (r : RecV) : (putRecOf r).length ≤ 100000 := by
  unfold putRecOf
  split
  · rename_i h
    have h0 := okR_txs h
    have h1 := flatN_len (headR r)
    have h2 := putSlot_len r.bf
    have h3 := putSlot_len r.af
    have h4 := (putOf_len (r.txs.length : Int)).2
    have h5 := flatL_len r.txs
    have h6 : (headR r).length = 6 := rfl
    simp only [bodyR, List.length_append]
    omega
  · simp
end Go.Proofs.YtjaojcgfgkppgaaDoor

/- The walk of laws.FnExactRecOk. -/
namespace Go.Proofs.YtjaojcgfgkppgaaDoor
open Go.RowKit

set_option maxHeartbeats 2000000 in
set_option maxRecDepth 100000 in
theorem lawRecOk_walk (p : RecA) (w : World) (hg : ErrT w) (hin : InRec w p) :
    Calls Tryd.prog 5 #[.agg p.cells.toArray] w fun e w' => e = .returned (.bool true) ∧ Below w.heap.size w w' := by
  have hsm : p.short 9223372036854775807 := hin.short
  have hrd : p.reads w := hin.reads
  obtain ⟨W, hW, b0, hbW, hsW⟩ := boxes1 w p.cells 52
  have HRG : Hid (∀ w', Below W.heap.size W w' → w'.rangeAt w.heap.size 0 p.cells) := fun w' hh => Box.range [] p.cells [] (by simpa using b0.below hh b0.lt)
  have HI : Hid ((Tryd.prog.info? 52).map (·.size) = some p.cells.length) := by rw [Hid]; kernel_rfl
  go_enter Tryd.func5, Tryd.ntmps5
  go_wp2_with (first | (guard_target = wpList _ _ _ (Oper.mk (some 7) _ _ _ _ _ :: _) _ _; refine wpList_load_mid rfl 52 (.tmp 1) rfl w.heap.size 0 rfl p.cells _ (by rw [hW.out]; exact HRG.out _ (Below.refl _ _)) Tryd.underlying52 rfl HI.out ?_) | fail)
  rw [hW.out]
  clear hW hsW
  refine (szRec_any p 1048576 W hsm (by omega)).mono ?_
  rintro e w1 ⟨z, rfl, hz, hb1⟩
  rcases hz with hneg | ⟨hz0, _, hl⟩
  · go_wp2
    go_ret
    exact ⟨rfl, hbW.trans (hb1.mono hbW.size)⟩
  have hzn : ¬ z < 0 := by omega
  have hr1 := hrd.below (hbW.trans (hb1.mono hbW.size))
  go_wp2_with (first | (guard_target = wpList _ _ _ (Oper.mk (some 12) _ _ _ _ _ :: _) _ _; refine wpList_load_mid rfl 52 (.tmp 1) rfl w.heap.size 0 rfl p.cells _ (HRG.out _ hb1) Tryd.underlying52 rfl HI.out ?_) | fail)
  refine (toRec_law p w1 hr1 hl).mono ?_
  rintro e w2 ⟨ts, rfl, hv2, ho2, hb2⟩
  have B2 : Below W.heap.size W w2 := hb1.trans (hb2.mono hb1.size)
  go_wp2_with fail
  refine (specRecOk_any ts w2 ho2.reads (short_wide (short_of hv2.out hl))).mono ?_
  simp only [hv2.out]
  clear hv2 ho2 hb2
  rintro e w3 ⟨rfl, hb3⟩
  have B3 : Below W.heap.size W w3 := B2.trans (hb3.mono B2.size)
  clear B2 hb3
  have hr3 := hrd.below (hbW.trans (B3.mono hbW.size))
  go_wp2_with (first | (guard_target = wpList _ _ _ (Oper.mk (some 15) _ _ _ _ _ :: _) _ _; refine wpList_load_mid rfl 52 (.tmp 1) rfl w.heap.size 0 rfl p.cells _ (HRG.out _ B3) Tryd.underlying52 rfl HI.out ?_) | fail)
  refine (toRec_law p w3 hr3 hl).mono ?_
  rintro e w4 ⟨q, rfl, hqm, hqo, hb4⟩
  have B4 : Below W.heap.size W w4 := B3.trans (hb4.mono B3.size)
  have hqS := short_of hqm.out hl
  obtain ⟨W5, hW5, b5, hbW5, hsW5⟩ := boxes1 w4 [.int .i64 0, .int .i64 0, .int .i64 0, .int .i64 0, .int .i64 0, .bool false, .int .i64 0, .slice none 0 0, .slice none 0 0, .bool false, .int .i64 0, .slice none 0 0, .slice none 0 0, .int .i64 0, .slice none 0 0] 31
  have b5' : Box W5 w4.heap.size ([] ++ (zeroR.cells ++ [])) 31 := b5
  clear b5
  obtain ⟨W6, hW6, b6, hw6, hs6⟩ := range_fill [] zeroR.cells q.cells [] b5' (by rfl)
  have HI6 : Hid ((Tryd.prog.info? 31).map (·.size) = some q.cells.length) := by rw [Hid]; kernel_rfl
  have HT6 : Hid (W5.there w4.heap.size 0 q.cells.toArray.size) := b5'.there 0 _ (by rw [List.size_toArray]; show 0 + 15 ≤ 15; decide)
  have B6 : Below W.heap.size W W6 := by
    have h1 := hb1.size
    have h4 := B4.size
    exact (B4.trans (hbW5.mono B4.size)).trans (hw6.below (by omega) (by omega))
  have hs4 := hbW5.size
  have hqo6 : q.own W6 w3.heap.size w4.heap.size := (hqo.below hbW5).within hw6 (.inl (Nat.le_refl _))
  have HR6 : Hid (∀ w', Below W6.heap.size W6 w' → w'.rangeAt w4.heap.size 0 q.cells) := fun w' hh => Box.range [] q.cells [] (by simpa using b6.below hh b6.lt)
  have HS : Hid (W5.setCells w4.heap.size 0 q.cells = W6) := hW6.out
  have HO : Hid (_) := all_oneCell_toArray (oneR q)
  clear hW6 b6 hw6 hs6 b5' hqo hsW5 hbW5
  go_wp2_with (first | (guard_target = wpList _ _ _ (Oper.mk none (Op.store _ (Operand.tmp 5) _) _ _ _ _ :: _) _ _; refine wpList_store_mid rfl 31 (.tmp 5) (.tmp 16) rfl w4.heap.size 0 q.cells.toArray rfl rfl (by rw [hW5.out]; exact HT6.out) (by rw [List.size_toArray]; exact HI6.out) HO.out ?_) | (guard_target = wpList _ _ _ (Oper.mk (some 17) _ _ _ _ _ :: _) _ _; refine wpList_load_mid rfl 31 (.tmp 5) rfl w4.heap.size 0 rfl q.cells _ (by rw [hW5.out, HS.out]; exact HR6.out _ (Below.refl _ _)) Tryd.underlying31 rfl HI6.out ?_) | fail)
  rw [hW5.out, HS.out]
  refine (implRecOk_any q W6 (hg.keep (hbW.trans (B6.mono hbW.size))) hqo6.reads (short_wide hqS)).mono ?_
  rw [hqm.out]
  generalize okR p.v = R at *
  rintro e w7 ⟨rfl, hb7⟩
  have B7 : Below W.heap.size W w7 := B6.trans (hb7.mono B6.size)
  have hr7 := hrd.below (hbW.trans (B7.mono hbW.size))
  have HQ : Hid (_) := hqm.out
  have HD : Hid (_ ∧ _ ∧ _) := ⟨hr7, (hqo6.below hb7).reads, hl⟩
  have hu1 := Tryd.underlying52
  have hu2 := Tryd.underlying31
  have hi1 := HI.out
  have hi2 := HI6.out
  have ho1 := oneR p
  have ho2' := oneR q
  have hh : w7.rangeAt w.heap.size 0 p.cells ∧ w7.rangeAt w4.heap.size 0 q.cells := ⟨HRG.out _ B7, HR6.out _ hb7⟩
  clear hqm hr7 hqo6 hin hsm hrd HT6 HO HS hW5 hs4 hl
  go_wp2_with fail
  refine wp_region_held_drew (S := fun w' => w'.rangeAt w.heap.size 0 p.cells ∧ w'.rangeAt w4.heap.size 0 q.cells) (by kernel_rfl) ?_ (fun hHeld => ?_)
  · exact ⟨HRG.out _ B7.drew, HR6.out _ hb7.drew⟩
  refine wpAnyH_take (i := 0) rfl (by kernel_rfl) (by kernel_rfl) (by kernel_rfl) (fun _ _ _ h => h) (yieldsIf_load_mid (by rfl) _ _ rfl _ _ rfl q.cells _ (fun _ h => h.2) hu2 rfl hi2) hHeld ?_
  refine wpAnyH_take (i := 1) rfl (by kernel_rfl) (by kernel_rfl) (by kernel_rfl) (fun _ _ _ h => h) (yieldsIf_load_mid (by rfl) _ _ rfl _ _ rfl p.cells _ (fun _ h => h.1) hu1 rfl hi1) hHeld ?_
  refine wpAnyH_ready (rs := [2]) (by kernel_rfl) (by simp) ?_
  refine AllReadyH.cons rfl (fun K hK => ?_) AllReadyH.nil
  go_simp
  refine (toRec_law p _ (HD.out.1.below (Below.refl _ _).drew) HD.out.2.2).mono ?_
  rintro e w8 ⟨vs, rfl, hv8, ho8, hb8⟩
  have C8 : Below W.heap.size W w8 := (B7.drew).trans (hb8.mono B7.size)
  have D8 : Below W6.heap.size W6 w8 := (hb7.drew).trans (hb8.mono hb7.size)
  have E8 : Below w7.heap.size w7 w8 := ((Below.refl _ _).drew).trans hb8
  refine hK.out _ _ ⟨HRG.out _ C8, HR6.out _ D8⟩ (fun hHeld => ?_)
  clear hK K
  refine wpAnyH_ready (rs := [3]) (by kernel_rfl) (by simp) ?_
  refine AllReadyH.cons rfl (fun K hK => ?_) AllReadyH.nil
  go_simp
  refine (eqRec_same q vs (hv8.out.trans HQ.out.symm) w8 (HD.out.2.1.below E8) ho8.reads (short_wide hqS)).mono ?_
  rintro e w9 ⟨rfl, hb9⟩
  have C9 : Below W.heap.size W w9 := C8.trans (hb9.mono C8.size)
  have D9 : Below W6.heap.size W6 w9 := D8.trans (hb9.mono D8.size)
  refine hK.out _ _ ⟨HRG.out _ C9, HR6.out _ D9⟩ (fun hHeld => ?_)
  clear hK K
  refine wpAnyH_take (i := 4) (v := .bool false) rfl (by kernel_rfl) (by kernel_rfl) (by kernel_rfl) (fun _ _ _ h => h) (Or.inl ⟨by rfl, ?_⟩) hHeld ?_
  · intro w' _; go_simp
  refine wpAnyH_done (by kernel_rfl) ?_ _
  go_wp2
  go_ret
  exact ⟨rfl, hbW.trans (C9.mono hbW.size)⟩
end Go.Proofs.YtjaojcgfgkppgaaDoor

/- What the row's condition on errors.errorType gives a walk; a world that meets it. -/
namespace Go.Proofs.YtjaojcgfgkppgaaDoor
open Go.ChangeShapes Go.WideShapes Go.RowKit

theorem Tryd.et : Tryd.prog.globalNamed "errors.errorType" = some 0 := by kernel_rfl
theorem Tryd.rt : (Tryd.prog.cutTypes.find? (·.1 == "internal/reflectlite.rtype")).map (·.2) = some 189 := by kernel_rfl
theorem Tryd.oneRow : ((List.range 231).filter fun t => Tryd.prog.rowNamed t [101, 114, 114, 111, 114]) = [159] := by kernel_rfl
theorem Tryd.typesSize : Tryd.prog.types.size = 231 := by kernel_rfl

theorem errT_of_handles {W : World} {laid : List (String × DataW Unit)} (hm : ("errors.errorType", Rows.laid_errors_errorType) ∈ laid) (h : handlesMet Tryd.prog laid W) : ErrT W := by
  obtain ⟨name, u, ty, e1, e2, e3, e4, e5⟩ := h _ hm
  have en : name = [101, 114, 114, 111, 114] := (Option.some.inj e1).symm
  subst en
  obtain rfl := Option.some.inj (Tryd.rt.symm.trans e2)
  have hm : ty ∈ (List.range 231).filter fun t => Tryd.prog.rowNamed t [101, 114, 114, 111, 114] := List.mem_filter.2 ⟨List.mem_range.2 (by rw [← Tryd.typesSize]; exact e3), e4⟩
  rw [Tryd.oneRow] at hm
  obtain rfl := List.mem_singleton.1 hm
  have hh : typeHandle Tryd.prog 159 = .pointer (some ⟨1, 159, none⟩) := by kernel_rfl
  rw [hh] at e5
  unfold ErrT
  simpa using World.var?_cell Tryd.et e5 0

/-- The one listed variable. -/
def laid1 : List (String × DataW Unit) := [("errors.errorType", Rows.laid_errors_errorType)]
theorem errT_of_laid1 {W : World} (h : laidMetH Tryd.prog laid1 W) : ErrT W := by
  have h' : laidMet Tryd.prog [] W ∧ handlesMet Tryd.prog laid1 W := h
  exact errT_of_handles (List.mem_singleton.2 rfl) h'.2
end Go.Proofs.YtjaojcgfgkppgaaDoor
