/- Several texts in one, in their order. -/
import Derived.Test.YtickiokdcbeefaaGreatDoorPFnLogsx8
import Derived.Test.YtickiokdcbeefaaGreatDoorPFnLogsx13
import Derived.Deep.QuietTactic
/- What a record tells, as the landed code holds it: an interface with a type for each kind. -/
namespace Go.Proofs.YtickiokdcbeefaaGreatDoor
open Go.RowKit

theorem yes_setDeed (W : World) (v : Value) : (Instr.typeAssert (.iface 114 v) 81 114 true).run Tryz.prog W = .ok (.tuple #[v, .bool true]) W := by kernel_rfl
theorem zero_setDeed (W : World) : (do pure (Value.tuple #[← zeroValue 114, .bool false]) : Sem Value).run Tryz.prog W = .ok (.tuple #[.agg #[.int .i64 0, .int .i64 0, .int .i64 0, .bool false, .int .i64 0, .slice none 0 0, .slice none 0 0, .bool false, .int .i64 0, .slice none 0 0, .slice none 0 0], .bool false]) W := by kernel_rfl
theorem nil_setDeed (W : World) : (Instr.typeAssert .nilIface 81 114 true).run Tryz.prog W = .ok (.tuple #[.agg #[.int .i64 0, .int .i64 0, .int .i64 0, .bool false, .int .i64 0, .slice none 0 0, .slice none 0 0, .bool false, .int .i64 0, .slice none 0 0, .slice none 0 0], .bool false]) W := by kernel_rfl
theorem no_setDeed (W : World) (u : TypeId) (v : Value) (h : u ≠ 114) : (Instr.typeAssert (.iface u v) 81 114 true).run Tryz.prog W = .ok (.tuple #[.agg #[.int .i64 0, .int .i64 0, .int .i64 0, .bool false, .int .i64 0, .slice none 0 0, .slice none 0 0, .bool false, .int .i64 0, .slice none 0 0, .slice none 0 0], .bool false]) W := by
  have e : (Instr.typeAssert (.iface u v) 81 114 true).run Tryz.prog W = (if u = 114 then (pure (Value.tuple #[v, .bool true]) : Sem Value) else (do pure (Value.tuple #[← zeroValue 114, .bool false]))).run Tryz.prog W := by kernel_rfl
  rw [e, if_neg h]
  exact zero_setDeed W

theorem yes_commitDeed (W : World) (v : Value) : (Instr.typeAssert (.iface 116 v) 81 116 true).run Tryz.prog W = .ok (.tuple #[v, .bool true]) W := by kernel_rfl
theorem zero_commitDeed (W : World) : (do pure (Value.tuple #[← zeroValue 116, .bool false]) : Sem Value).run Tryz.prog W = .ok (.tuple #[.agg #[.int .i64 0, .int .i64 0], .bool false]) W := by kernel_rfl
theorem nil_commitDeed (W : World) : (Instr.typeAssert .nilIface 81 116 true).run Tryz.prog W = .ok (.tuple #[.agg #[.int .i64 0, .int .i64 0], .bool false]) W := by kernel_rfl
theorem no_commitDeed (W : World) (u : TypeId) (v : Value) (h : u ≠ 116) : (Instr.typeAssert (.iface u v) 81 116 true).run Tryz.prog W = .ok (.tuple #[.agg #[.int .i64 0, .int .i64 0], .bool false]) W := by
  have e : (Instr.typeAssert (.iface u v) 81 116 true).run Tryz.prog W = (if u = 116 then (pure (Value.tuple #[v, .bool true]) : Sem Value) else (do pure (Value.tuple #[← zeroValue 116, .bool false]))).run Tryz.prog W := by kernel_rfl
  rw [e, if_neg h]
  exact zero_commitDeed W

theorem yes_abortDeed (W : World) (v : Value) : (Instr.typeAssert (.iface 117 v) 81 117 true).run Tryz.prog W = .ok (.tuple #[v, .bool true]) W := by kernel_rfl
theorem zero_abortDeed (W : World) : (do pure (Value.tuple #[← zeroValue 117, .bool false]) : Sem Value).run Tryz.prog W = .ok (.tuple #[.agg #[.int .i64 0, .int .i64 0], .bool false]) W := by kernel_rfl
theorem nil_abortDeed (W : World) : (Instr.typeAssert .nilIface 81 117 true).run Tryz.prog W = .ok (.tuple #[.agg #[.int .i64 0, .int .i64 0], .bool false]) W := by kernel_rfl
theorem no_abortDeed (W : World) (u : TypeId) (v : Value) (h : u ≠ 117) : (Instr.typeAssert (.iface u v) 81 117 true).run Tryz.prog W = .ok (.tuple #[.agg #[.int .i64 0, .int .i64 0], .bool false]) W := by
  have e : (Instr.typeAssert (.iface u v) 81 117 true).run Tryz.prog W = (if u = 117 then (pure (Value.tuple #[v, .bool true]) : Sem Value) else (do pure (Value.tuple #[← zeroValue 117, .bool false]))).run Tryz.prog W := by kernel_rfl
  rw [e, if_neg h]
  exact zero_abortDeed W

theorem yes_backDeed (W : World) (v : Value) : (Instr.typeAssert (.iface 119 v) 81 119 true).run Tryz.prog W = .ok (.tuple #[v, .bool true]) W := by kernel_rfl
theorem zero_backDeed (W : World) : (do pure (Value.tuple #[← zeroValue 119, .bool false]) : Sem Value).run Tryz.prog W = .ok (.tuple #[.agg #[.int .i64 0, .int .i64 0, .int .i64 0, .bool false, .int .i64 0, .slice none 0 0, .slice none 0 0, .int .i64 0], .bool false]) W := by kernel_rfl
theorem nil_backDeed (W : World) : (Instr.typeAssert .nilIface 81 119 true).run Tryz.prog W = .ok (.tuple #[.agg #[.int .i64 0, .int .i64 0, .int .i64 0, .bool false, .int .i64 0, .slice none 0 0, .slice none 0 0, .int .i64 0], .bool false]) W := by kernel_rfl
theorem no_backDeed (W : World) (u : TypeId) (v : Value) (h : u ≠ 119) : (Instr.typeAssert (.iface u v) 81 119 true).run Tryz.prog W = .ok (.tuple #[.agg #[.int .i64 0, .int .i64 0, .int .i64 0, .bool false, .int .i64 0, .slice none 0 0, .slice none 0 0, .int .i64 0], .bool false]) W := by
  have e : (Instr.typeAssert (.iface u v) 81 119 true).run Tryz.prog W = (if u = 119 then (pure (Value.tuple #[v, .bool true]) : Sem Value) else (do pure (Value.tuple #[← zeroValue 119, .bool false]))).run Tryz.prog W := by kernel_rfl
  rw [e, if_neg h]
  exact zero_backDeed W

theorem yes_endDeed (W : World) (v : Value) : (Instr.typeAssert (.iface 120 v) 81 120 true).run Tryz.prog W = .ok (.tuple #[v, .bool true]) W := by kernel_rfl
theorem zero_endDeed (W : World) : (do pure (Value.tuple #[← zeroValue 120, .bool false]) : Sem Value).run Tryz.prog W = .ok (.tuple #[.agg #[.int .i64 0, .int .i64 0], .bool false]) W := by kernel_rfl
theorem nil_endDeed (W : World) : (Instr.typeAssert .nilIface 81 120 true).run Tryz.prog W = .ok (.tuple #[.agg #[.int .i64 0, .int .i64 0], .bool false]) W := by kernel_rfl
theorem no_endDeed (W : World) (u : TypeId) (v : Value) (h : u ≠ 120) : (Instr.typeAssert (.iface u v) 81 120 true).run Tryz.prog W = .ok (.tuple #[.agg #[.int .i64 0, .int .i64 0], .bool false]) W := by
  have e : (Instr.typeAssert (.iface u v) 81 120 true).run Tryz.prog W = (if u = 120 then (pure (Value.tuple #[v, .bool true]) : Sem Value) else (do pure (Value.tuple #[← zeroValue 120, .bool false]))).run Tryz.prog W := by kernel_rfl
  rw [e, if_neg h]
  exact zero_endDeed W

theorem yes_checkDeed (W : World) (v : Value) : (Instr.typeAssert (.iface 122 v) 81 122 true).run Tryz.prog W = .ok (.tuple #[v, .bool true]) W := by kernel_rfl
theorem nil_checkDeed (W : World) : (Instr.typeAssert .nilIface 81 122 true).run Tryz.prog W = .ok (.tuple #[.agg #[.slice none 0 0], .bool false]) W := by kernel_rfl
/-- A transaction, and its record ahead. -/
def linkD (tx prev : Int) : List Value := [.int .i64 tx, .int .i64 prev]
def setD (tx prev oid : Int) (b a : SlotA) : List Value := [.int .i64 tx, .int .i64 prev, .int .i64 oid, .bool b.v.has, .int .i64 b.v.o.kind, .slice b.aI b.v.o.ints.length b.cI, .slice b.aR b.v.o.refs.length b.cR, .bool a.v.has, .int .i64 a.v.o.kind, .slice a.aI a.v.o.ints.length a.cI, .slice a.aR a.v.o.refs.length a.cR]
def backD (tx prev oid : Int) (a : SlotA) (next : Int) : List Value := [.int .i64 tx, .int .i64 prev, .int .i64 oid, .bool a.v.has, .int .i64 a.v.o.kind, .slice a.aI a.v.o.ints.length a.cI, .slice a.aR a.v.o.refs.length a.cR, .int .i64 next]
def checkD (ls : List LiveV) (aL : Option Addr) (cL : Nat) : List Value := [.slice aL ls.length cL]

def issetDeed (v : List Value) : Value := .iface 114 (.agg v.toArray)
def iscommitDeed (v : List Value) : Value := .iface 116 (.agg v.toArray)
def isabortDeed (v : List Value) : Value := .iface 117 (.agg v.toArray)
def isbackDeed (v : List Value) : Value := .iface 119 (.agg v.toArray)
def isendDeed (v : List Value) : Value := .iface 120 (.agg v.toArray)
def ischeckDeed (v : List Value) : Value := .iface 122 (.agg v.toArray)
/-- What the landed code makes of a record. -/
def deedV (r : RecA) : Value :=
  if r.kind == 1 then issetDeed (setD r.tx r.prev r.oid r.bf r.af)
  else if r.kind == 2 then iscommitDeed (linkD r.tx r.prev)
  else if r.kind == 3 then isabortDeed (linkD r.tx r.prev)
  else if r.kind == 4 then isbackDeed (backD r.tx r.prev r.oid r.af r.next)
  else if r.kind == 5 then isendDeed (linkD r.tx r.prev)
  else if r.kind == 6 then ischeckDeed (checkD r.txs r.aL r.cL)
  else .nilIface

set_option maxHeartbeats 2000000 in
set_option maxRecDepth 100000 in
theorem deedOf_any (r : RecA) (w : World) :
    Calls Tryz.prog 54 #[.agg r.cells.toArray] w fun e w' => e = .returned (deedV r) ∧ Below w.heap.size w w' := by
  obtain ⟨W, hW, b0, b1, hbW, hsW⟩ := boxes2 w r.cells [.int .i64 r.tx, .int .i64 r.prev] 42 112
  have HV : Hid (deedV r = if r.kind == 1 then issetDeed (setD r.tx r.prev r.oid r.bf r.af)
    else if r.kind == 2 then iscommitDeed (linkD r.tx r.prev)
    else if r.kind == 3 then isabortDeed (linkD r.tx r.prev)
    else if r.kind == 4 then isbackDeed (backD r.tx r.prev r.oid r.af r.next)
    else if r.kind == 5 then isendDeed (linkD r.tx r.prev)
    else if r.kind == 6 then ischeckDeed (checkD r.txs r.aL r.cL)
    else .nilIface) := rfl
  generalize deedV r = D at *
  simp only [RecA.cells] at *
  obtain ⟨x0, x1, x2, x3, x4, x5, x6, x7, x8, x9, x10, x11, x12, x13, x14⟩ := fifteen b0
  have y0 := b1.cell 0 _ rfl
  have y1 := b1.cell 1 _ rfl
  clear b0 b1 hsW
  cases k1 : (r.kind == 1) with
  | true =>
    have HR : Hid (D = issetDeed (setD r.tx r.prev r.oid r.bf r.af)) := by rw [Hid, HV.out]; simp [k1]
    clear HV
    go_enter Tryz.func54, Tryz.ntmps54
    go_wp2_with fail
    rw [hW.out]
    clear hW
    go_wp2
    go_ret
    exact ⟨by rw [HR.out]; rfl, hbW⟩
  | false =>
    cases k2 : (r.kind == 2) with
    | true =>
      have HR : Hid (D = iscommitDeed (linkD r.tx r.prev)) := by rw [Hid, HV.out]; simp [k1, k2]
      clear HV
      go_enter Tryz.func54, Tryz.ntmps54
      go_wp2_with fail
      rw [hW.out]
      clear hW
      go_wp2
      go_ret
      exact ⟨by rw [HR.out]; rfl, hbW⟩
    | false =>
      cases k3 : (r.kind == 3) with
      | true =>
        have HR : Hid (D = isabortDeed (linkD r.tx r.prev)) := by rw [Hid, HV.out]; simp [k1, k2, k3]
        clear HV
        go_enter Tryz.func54, Tryz.ntmps54
        go_wp2_with fail
        rw [hW.out]
        clear hW
        go_wp2
        go_ret
        exact ⟨by rw [HR.out]; rfl, hbW⟩
      | false =>
        cases k4 : (r.kind == 4) with
        | true =>
          have HR : Hid (D = isbackDeed (backD r.tx r.prev r.oid r.af r.next)) := by rw [Hid, HV.out]; simp [k1, k2, k3, k4]
          clear HV
          go_enter Tryz.func54, Tryz.ntmps54
          go_wp2_with fail
          rw [hW.out]
          clear hW
          go_wp2
          go_ret
          exact ⟨by rw [HR.out]; rfl, hbW⟩
        | false =>
          cases k5 : (r.kind == 5) with
          | true =>
            have HR : Hid (D = isendDeed (linkD r.tx r.prev)) := by rw [Hid, HV.out]; simp [k1, k2, k3, k4, k5]
            clear HV
            go_enter Tryz.func54, Tryz.ntmps54
            go_wp2_with fail
            rw [hW.out]
            clear hW
            go_wp2
            go_ret
            exact ⟨by rw [HR.out]; rfl, hbW⟩
          | false =>
            cases k6 : (r.kind == 6) with
            | true =>
              have HR : Hid (D = ischeckDeed (checkD r.txs r.aL r.cL)) := by rw [Hid, HV.out]; simp [k1, k2, k3, k4, k5, k6]
              clear HV
              go_enter Tryz.func54, Tryz.ntmps54
              go_wp2_with fail
              rw [hW.out]
              clear hW
              go_wp2
              go_ret
              exact ⟨by rw [HR.out]; rfl, hbW⟩
            | false =>
              have HR : Hid (D = .nilIface) := by rw [Hid, HV.out]; simp [k1, k2, k3, k4, k5, k6]
              clear HV
              go_enter Tryz.func54, Tryz.ntmps54
              go_wp2
              go_ret
              exact ⟨by rw [HR.out]; rfl, by rw [hW.out]; exact hbW⟩
end Go.Proofs.YtickiokdcbeefaaGreatDoor

/- The walks of impl.txOk, oidOk, isAhead, linkOk, livesOk, deedOk. -/
namespace Go.Proofs.YtickiokdcbeefaaGreatDoor
open Go.RowKit

set_option maxHeartbeats 400000 in
theorem txOk_any (x : Int) (w : World) : Calls Tryz.prog 101 #[.int .i64 x] w fun e w' => e = .returned (.bool (inB x 1 1000)) ∧ w' = w := by
  by_cases h1 : 1 ≤ x
  · by_cases h2 : x ≤ 1000
    · have HB : Hid (inB x 1 1000 = true) := by simp [Hid, inB]; omega
      go_enter Tryz.func101, Tryz.ntmps101
      go_wp2
      go_ret
      exact ⟨ret_bool HB.out.symm, rfl⟩
    · have HB : Hid (inB x 1 1000 = false) := by simp [Hid, inB]; omega
      go_enter Tryz.func101, Tryz.ntmps101
      go_wp2
      go_ret
      exact ⟨ret_bool HB.out.symm, rfl⟩
  · have HB : Hid (inB x 1 1000 = false) := by simp [Hid, inB]; omega
    go_enter Tryz.func101, Tryz.ntmps101
    go_wp2
    go_ret
    exact ⟨ret_bool HB.out.symm, rfl⟩

set_option maxHeartbeats 400000 in
theorem oidOk_any (x : Int) (w : World) : Calls Tryz.prog 76 #[.int .i64 x] w fun e w' => e = .returned (.bool (inB x 1 31)) ∧ w' = w := by
  by_cases h1 : 1 ≤ x
  · by_cases h2 : x ≤ 31
    · have HB : Hid (inB x 1 31 = true) := by simp [Hid, inB]; omega
      go_enter Tryz.func76, Tryz.ntmps76
      go_wp2
      go_ret
      exact ⟨ret_bool HB.out.symm, rfl⟩
    · have HB : Hid (inB x 1 31 = false) := by simp [Hid, inB]; omega
      go_enter Tryz.func76, Tryz.ntmps76
      go_wp2
      go_ret
      exact ⟨ret_bool HB.out.symm, rfl⟩
  · have HB : Hid (inB x 1 31 = false) := by simp [Hid, inB]; omega
    go_enter Tryz.func76, Tryz.ntmps76
    go_wp2
    go_ret
    exact ⟨ret_bool HB.out.symm, rfl⟩

set_option maxHeartbeats 400000 in
theorem isAhead_any (n x : Int) (w : World) : Calls Tryz.prog 78 #[.int .i64 n, .int .i64 x] w fun e w' => e = .returned (.bool (inB x 0 (n - 1))) ∧ w' = w := by
  by_cases h1 : 0 ≤ x
  · by_cases h2 : x < n
    · have HB : Hid (inB x 0 (n - 1) = true) := by simp [Hid, inB]; omega
      go_enter Tryz.func78, Tryz.ntmps78
      go_wp2
      go_ret
      exact ⟨ret_bool HB.out.symm, rfl⟩
    · have HB : Hid (inB x 0 (n - 1) = false) := by simp [Hid, inB]; omega
      go_enter Tryz.func78, Tryz.ntmps78
      go_wp2
      go_ret
      exact ⟨ret_bool HB.out.symm, rfl⟩
  · have HB : Hid (inB x 0 (n - 1) = false) := by simp [Hid, inB]; omega
    go_enter Tryz.func78, Tryz.ntmps78
    go_wp2
    go_ret
    exact ⟨ret_bool HB.out.symm, rfl⟩

def linkB (n tx prev : Int) : Bool := inB tx 1 1000 && inB prev 0 (n - 1)
set_option maxHeartbeats 400000 in
theorem linkOk_any (n tx prev : Int) (w : World) : Calls Tryz.prog 75 #[.int .i64 n, .agg #[.int .i64 tx, .int .i64 prev]] w fun e w' => e = .returned (.bool (linkB n tx prev)) ∧ Below w.heap.size w w' := by
  obtain ⟨W, hW, b0, hbW, hsW⟩ := boxes1 w [.int .i64 tx, .int .i64 prev] 112
  have HZ : Hid (linkB n tx prev = (inB tx 1 1000 && inB prev 0 (n - 1))) := rfl
  generalize linkB n tx prev = R at *
  have y0 := b0.cell 0 _ rfl
  have y1 := b0.cell 1 _ rfl
  clear hsW b0
  go_enter Tryz.func75, Tryz.ntmps75
  go_wp2_with fail
  rw [hW.out]
  clear hW
  refine (txOk_any _ W).mono ?_
  rintro e u ⟨rfl, hu⟩
  rw [hu]
  clear hu u
  cases h0 : inB tx 1 1000 with
  | false =>
    have HR : Hid (R = false) := by rw [Hid, HZ.out]; simp [h0]
    go_wp2
    go_ret
    exact ⟨ret_bool HR.out.symm, hbW⟩
  | true =>
    have HR : Hid (R = inB prev 0 (n - 1)) := by rw [Hid, HZ.out]; simp [h0]
    go_wp2_with fail
    refine (isAhead_any _ _ W).mono ?_
    rintro e u ⟨rfl, hu⟩
    rw [hu]
    clear hu u
    go_wp2
    go_ret
    exact ⟨ret_bool HR.out.symm, hbW⟩

/-- The Tx ahead of the one at k. -/
def aheadTx (ls : List LiveV) : Nat → Int
  | 0 => 0
  | k + 1 => (ls.getD k zeroL).tx
theorem liveOk_eq (n : Int) (ls : List LiveV) (k : Nat) : liveOk n ls k = (decide (aheadTx ls k < (ls.getD k zeroL).tx) && (inB (ls.getD k zeroL).tx 1 1000 && (!((ls.getD k zeroL).last == 0) && inB (ls.getD k zeroL).last 0 (n - 1)))) := by
  rw [Bool.eq_iff_iff]
  cases k with
  | zero => simp [liveOk, aheadTx, inB]; omega
  | succ k => simp [liveOk, aheadTx, inB]; omega

set_option maxHeartbeats 2000000 in
set_option maxRecDepth 100000 in
theorem livesOk_any (n : Int) (aL : Option Addr) (cL : Nat) (ls : List LiveV) (w : World) (hr : ReadsL w aL ls) (hl : ls.length ≤ 1099511627776) :
    Calls Tryz.prog 79 #[.int .i64 n, .slice aL ls.length cL] w fun e w' => e = .returned (.bool (livesB n ls)) ∧ Below w.heap.size w w' := by
  have HNO : Hid (∀ k, k < ls.length → liveOk n ls k = false → livesB n ls = false) := fun k hk h => livesB_no k hk h
  have HAL : Hid ((∀ k, k < ls.length → liveOk n ls k = true) → livesB n ls = decide (ls.length ≤ 20)) := fun h => livesB_all h
  generalize livesB n ls = R at *
  go_enter Tryz.func79, Tryz.ntmps79
  go_wp2
  go_loopw [5, 10] (fun t i wr => ∃ k : Nat, k ≤ ls.length ∧ i = .int .i64 k ∧ t = .int .i64 (aheadTx ls k) ∧ Hid (∀ j, j < k → liveOk n ls j = true) ∧ Below w.heap.size w wr) (fun _ i _ => ls.length - (intOf i).toNat)
  case atStart => exact ⟨0, Nat.zero_le _, rfl, rfl, fun j hj => by omega, Below.refl _ _⟩
  case round =>
    obtain ⟨k, hk, rfl, rfl, hall, hbl⟩ := hrel
    have hrr := hr.below hbl
    clear hr
    by_cases hlt : k < ls.length
    · obtain ⟨b, off, rfl, hcell⟩ := hrr (by intro e; rw [e] at hlt; simp at hlt)
      obtain ⟨c0, c1, c2⟩ := hcell k hlt
      have HQ : Hid (_ = _) := liveOk_eq n ls k
      have HX : Hid (aheadTx ls (k + 1) = (ls.getD k zeroL).tx) := rfl
      have HN : Hid (liveOk n ls k = false → R = false) := fun h => HNO.out k hlt h
      clear hcell HNO HAL
      generalize aheadTx ls k = p at *
      generalize hz : ls.getD k zeroL = z at *
      obtain ⟨W, hW, b0, hbW, hsW⟩ := boxes1 wr [.int .i64 z.tx, .int .i64 z.last, .bool z.aborts] 62
      have y0 := b0.cell 0 _ rfl
      have y1 := b0.cell 1 _ rfl
      have BW : Below w.heap.size w W := hbl.trans (hbW.mono hbl.size)
      clear hsW b0 hz hbW
      by_cases hA : z.tx ≤ p
      · have HR : Hid (R = false) := HN.out (by rw [HQ.out]; simp; omega)
        clear HQ HN HX
        go_wp2
        go_ret
        exact ⟨ret_bool HR.out.symm, by rw [hW.out]; exact BW⟩
      go_wp2_with fail
      rw [hW.out]
      refine (txOk_any _ W).mono ?_
      rintro e u ⟨rfl, hu⟩
      rw [hu]
      clear hu u hW
      cases hB : inB z.tx 1 1000 with
      | false =>
        have HR : Hid (R = false) := HN.out (by rw [HQ.out]; simp [hB])
        clear HQ HN HX
        go_wp2
        go_ret
        exact ⟨ret_bool HR.out.symm, BW⟩
      | true =>
        cases hC : (z.last == 0) with
        | true =>
          have HR : Hid (R = false) := HN.out (by rw [HQ.out]; simp [hC])
          clear HQ HN HX
          go_wp2
          go_ret
          exact ⟨ret_bool HR.out.symm, BW⟩
        | false =>
          go_wp2_with fail
          refine (isAhead_any _ _ W).mono ?_
          rintro e u ⟨rfl, hu⟩
          rw [hu]
          clear hu u
          cases hD : inB z.last 0 (n - 1) with
          | false =>
            have HR : Hid (R = false) := HN.out (by rw [HQ.out]; simp [hD])
            clear HQ HN HX
            go_wp2
            go_ret
            exact ⟨ret_bool HR.out.symm, BW⟩
          | true =>
            have HK : Hid (∀ j, j < k + 1 → liveOk n ls j = true) := by
              intro j hj
              by_cases e : j = k
              · rw [e, HQ.out]; simp [hB, hC, hD]; omega
              · exact hall.out j (by omega)
            clear HQ HN
            go_wp2
            go_roundw
            case rel => exact ⟨k + 1, by omega, by go_num, by rw [HX.out], HK, BW⟩
            case measure => simp [intOf]; omega
    · have HR : Hid (R = decide (ls.length ≤ 20)) := HAL.out (fun j hj => hall.out j (by omega))
      clear HNO HAL
      go_wp2
      go_ret
      exact ⟨ret_bool (by rw [HR.out]; exact decide_eq_decide.2 (by omega)), hbl⟩

set_option maxHeartbeats 2000000 in
set_option maxRecDepth 100000 in
theorem deedOk_set (n : Int) (tx prev oid : Int) (b a : SlotA) (w : World) (hg : ErrT w) (hb : b.reads w) (ha : a.reads w) (hlb : Fit [b]) (hla : Fit [a]) :
    Calls Tryz.prog 55 #[.int .i64 n, issetDeed (setD tx prev oid b a)] w fun e w' => e = .returned (.bool (linkB n tx prev && (inB oid 1 31 && (slotB b.v && (slotB a.v))))) ∧ Below w.heap.size w w' := by
  obtain ⟨W, hW, b0, hbW, hsW⟩ := boxes1 w [.int .i64 tx, .int .i64 prev, .int .i64 oid, .bool b.v.has, .int .i64 b.v.o.kind, .slice b.aI b.v.o.ints.length b.cI, .slice b.aR b.v.o.refs.length b.cR, .bool a.v.has, .int .i64 a.v.o.kind, .slice a.aI a.v.o.ints.length a.cI, .slice a.aR a.v.o.refs.length a.cR] 114
  have HZ : Hid (∀ R, R = (linkB n tx prev && (inB oid 1 31 && (slotB b.v && (slotB a.v)))) → R = (linkB n tx prev && (inB oid 1 31 && (slotB b.v && (slotB a.v))))) := fun _ h => h
  simp only [issetDeed, setD]
  have a_setDeed := fun W => yes_setDeed W (.agg #[.int .i64 tx, .int .i64 prev, .int .i64 oid, .bool b.v.has, .int .i64 b.v.o.kind, .slice b.aI b.v.o.ints.length b.cI, .slice b.aR b.v.o.refs.length b.cR, .bool a.v.has, .int .i64 a.v.o.kind, .slice a.aI a.v.o.ints.length a.cI, .slice a.aR a.v.o.refs.length a.cR])
  have HX : Hid (∀ u, Below W.heap.size W u → Box u w.heap.size [.int .i64 tx, .int .i64 prev, .int .i64 oid, .bool b.v.has, .int .i64 b.v.o.kind, .slice b.aI b.v.o.ints.length b.cI, .slice b.aR b.v.o.refs.length b.cR, .bool a.v.has, .int .i64 a.v.o.kind, .slice a.aI a.v.o.ints.length a.cI, .slice a.aR a.v.o.refs.length a.cR] 114) := fun u hu => b0.below hu b0.lt
  obtain ⟨R, HQ⟩ : ∃ R, Hid (R = (linkB n tx prev && (inB oid 1 31 && (slotB b.v && (slotB a.v))))) := ⟨_, rfl⟩
  rw [← HQ.out]
  clear hsW b0 HZ
  go_enter Tryz.func55, Tryz.ntmps55
  have x0 := (HX.out W (Below.refl _ _)).cell 0 _ rfl
  have x1 := (HX.out W (Below.refl _ _)).cell 1 _ rfl
  have x2 := (HX.out W (Below.refl _ _)).cell 2 _ rfl
  have x3 := (HX.out W (Below.refl _ _)).cell 3 _ rfl
  have x4 := (HX.out W (Below.refl _ _)).cell 4 _ rfl
  have x5 := (HX.out W (Below.refl _ _)).cell 5 _ rfl
  have x6 := (HX.out W (Below.refl _ _)).cell 6 _ rfl
  have x7 := (HX.out W (Below.refl _ _)).cell 7 _ rfl
  have x8 := (HX.out W (Below.refl _ _)).cell 8 _ rfl
  have x9 := (HX.out W (Below.refl _ _)).cell 9 _ rfl
  have x10 := (HX.out W (Below.refl _ _)).cell 10 _ rfl
  go_wp2_with fail
  rw [hW.out]
  clear hW
  have l0 : Below W.heap.size W W := Below.refl _ _
  refine (linkOk_any n tx prev W).mono ?_
  clear x0 x1 x2 x3 x4 x5 x6 x7 x8 x9 x10
  rintro e u0 ⟨rfl, hb0⟩
  have b_0 : Below w.heap.size w u0 := (hbW).trans (hb0.mono (hbW).size)
  have l_0 : Below W.heap.size W u0 := (l0).trans (hb0.mono (l0).size)
  have x0 := (HX.out u0 (l_0)).cell 0 _ rfl
  have x1 := (HX.out u0 (l_0)).cell 1 _ rfl
  have x2 := (HX.out u0 (l_0)).cell 2 _ rfl
  have x3 := (HX.out u0 (l_0)).cell 3 _ rfl
  have x4 := (HX.out u0 (l_0)).cell 4 _ rfl
  have x5 := (HX.out u0 (l_0)).cell 5 _ rfl
  have x6 := (HX.out u0 (l_0)).cell 6 _ rfl
  have x7 := (HX.out u0 (l_0)).cell 7 _ rfl
  have x8 := (HX.out u0 (l_0)).cell 8 _ rfl
  have x9 := (HX.out u0 (l_0)).cell 9 _ rfl
  have x10 := (HX.out u0 (l_0)).cell 10 _ rfl
  clear hb0
  cases h0 : linkB n tx prev with
  | false =>
    have HR : Hid (R = false) := by rw [Hid, HQ.out]; simp [h0]
    go_wp2
    go_ret
    exact ⟨ret_bool HR.out.symm, b_0⟩
  | true =>
    go_wp2_with fail
    refine (oidOk_any oid u0).mono ?_
    rintro e v ⟨rfl, hv⟩
    rw [hv]
    clear hv v
    cases h1 : inB oid 1 31 with
    | false =>
      have HR : Hid (R = false) := by rw [Hid, HQ.out]; simp [h0, h1]
      go_wp2
      go_ret
      exact ⟨ret_bool HR.out.symm, b_0⟩
    | true =>
      go_wp2_with fail
      refine (slotOk_any b u0 (hg.keep (b_0)) (ReadsO.below hb (b_0)) hlb).mono ?_
      clear x0 x1 x2 x3 x4 x5 x6 x7 x8 x9 x10
      rintro e u2 ⟨rfl, hb2⟩
      have b_2 : Below w.heap.size w u2 := (b_0).trans (hb2.mono (b_0).size)
      have l_2 : Below W.heap.size W u2 := (l_0).trans (hb2.mono (l_0).size)
      have x0 := (HX.out u2 (l_2)).cell 0 _ rfl
      have x1 := (HX.out u2 (l_2)).cell 1 _ rfl
      have x2 := (HX.out u2 (l_2)).cell 2 _ rfl
      have x3 := (HX.out u2 (l_2)).cell 3 _ rfl
      have x4 := (HX.out u2 (l_2)).cell 4 _ rfl
      have x5 := (HX.out u2 (l_2)).cell 5 _ rfl
      have x6 := (HX.out u2 (l_2)).cell 6 _ rfl
      have x7 := (HX.out u2 (l_2)).cell 7 _ rfl
      have x8 := (HX.out u2 (l_2)).cell 8 _ rfl
      have x9 := (HX.out u2 (l_2)).cell 9 _ rfl
      have x10 := (HX.out u2 (l_2)).cell 10 _ rfl
      clear hb2
      cases h2 : slotB b.v with
      | false =>
        have HR : Hid (R = false) := by rw [Hid, HQ.out]; simp [h0, h1, h2]
        go_wp2
        go_ret
        exact ⟨ret_bool HR.out.symm, b_2⟩
      | true =>
        go_wp2_with fail
        refine (slotOk_any a u2 (hg.keep (b_2)) (ReadsO.below ha (b_2)) hla).mono ?_
        clear x0 x1 x2 x3 x4 x5 x6 x7 x8 x9 x10
        rintro e u3 ⟨rfl, hb3⟩
        have b_3 : Below w.heap.size w u3 := (b_2).trans (hb3.mono (b_2).size)
        have l_3 : Below W.heap.size W u3 := (l_2).trans (hb3.mono (l_2).size)
        have x0 := (HX.out u3 (l_3)).cell 0 _ rfl
        have x1 := (HX.out u3 (l_3)).cell 1 _ rfl
        have x2 := (HX.out u3 (l_3)).cell 2 _ rfl
        have x3 := (HX.out u3 (l_3)).cell 3 _ rfl
        have x4 := (HX.out u3 (l_3)).cell 4 _ rfl
        have x5 := (HX.out u3 (l_3)).cell 5 _ rfl
        have x6 := (HX.out u3 (l_3)).cell 6 _ rfl
        have x7 := (HX.out u3 (l_3)).cell 7 _ rfl
        have x8 := (HX.out u3 (l_3)).cell 8 _ rfl
        have x9 := (HX.out u3 (l_3)).cell 9 _ rfl
        have x10 := (HX.out u3 (l_3)).cell 10 _ rfl
        clear hb3
        have HR : Hid (R = slotB a.v) := by rw [Hid, HQ.out]; simp [h0, h1, h2]
        generalize slotB a.v = G at *
        go_wp2
        go_ret
        exact ⟨ret_bool HR.out.symm, b_3⟩
set_option maxHeartbeats 2000000 in
set_option maxRecDepth 100000 in
theorem deedOk_commit (n : Int) (tx prev : Int) (w : World) :
    Calls Tryz.prog 55 #[.int .i64 n, iscommitDeed (linkD tx prev)] w fun e w' => e = .returned (.bool (linkB n tx prev)) ∧ Below w.heap.size w w' := by
  obtain ⟨W, hW, b0, hbW, hsW⟩ := boxes1 w [.int .i64 tx, .int .i64 prev] 116
  have HZ : Hid (∀ R, R = (linkB n tx prev) → R = (linkB n tx prev)) := fun _ h => h
  simp only [iscommitDeed, linkD]
  have a_setDeed := fun W => no_setDeed W 116 (.agg #[.int .i64 tx, .int .i64 prev]) (by decide)
  have a_commitDeed := fun W => yes_commitDeed W (.agg #[.int .i64 tx, .int .i64 prev])
  have HX : Hid (∀ u, Below W.heap.size W u → Box u w.heap.size [.int .i64 tx, .int .i64 prev] 116) := fun u hu => b0.below hu b0.lt
  obtain ⟨R, HQ⟩ : ∃ R, Hid (R = (linkB n tx prev)) := ⟨_, rfl⟩
  rw [← HQ.out]
  clear hsW b0 HZ
  go_enter Tryz.func55, Tryz.ntmps55
  have x0 := (HX.out W (Below.refl _ _)).cell 0 _ rfl
  have x1 := (HX.out W (Below.refl _ _)).cell 1 _ rfl
  go_wp2_with fail
  rw [hW.out]
  clear hW
  have l0 : Below W.heap.size W W := Below.refl _ _
  refine (linkOk_any n tx prev W).mono ?_
  clear x0 x1
  rintro e u0 ⟨rfl, hb0⟩
  have b_0 : Below w.heap.size w u0 := (hbW).trans (hb0.mono (hbW).size)
  have l_0 : Below W.heap.size W u0 := (l0).trans (hb0.mono (l0).size)
  have x0 := (HX.out u0 (l_0)).cell 0 _ rfl
  have x1 := (HX.out u0 (l_0)).cell 1 _ rfl
  clear hb0
  have HR : Hid (R = linkB n tx prev) := HQ.out
  generalize linkB n tx prev = G at *
  go_wp2
  go_ret
  exact ⟨ret_bool HR.out.symm, b_0⟩
set_option maxHeartbeats 2000000 in
set_option maxRecDepth 100000 in
theorem deedOk_abort (n : Int) (tx prev : Int) (w : World) :
    Calls Tryz.prog 55 #[.int .i64 n, isabortDeed (linkD tx prev)] w fun e w' => e = .returned (.bool (linkB n tx prev)) ∧ Below w.heap.size w w' := by
  obtain ⟨W, hW, b0, hbW, hsW⟩ := boxes1 w [.int .i64 tx, .int .i64 prev] 117
  have HZ : Hid (∀ R, R = (linkB n tx prev) → R = (linkB n tx prev)) := fun _ h => h
  simp only [isabortDeed, linkD]
  have a_setDeed := fun W => no_setDeed W 117 (.agg #[.int .i64 tx, .int .i64 prev]) (by decide)
  have a_commitDeed := fun W => no_commitDeed W 117 (.agg #[.int .i64 tx, .int .i64 prev]) (by decide)
  have a_abortDeed := fun W => yes_abortDeed W (.agg #[.int .i64 tx, .int .i64 prev])
  have HX : Hid (∀ u, Below W.heap.size W u → Box u w.heap.size [.int .i64 tx, .int .i64 prev] 117) := fun u hu => b0.below hu b0.lt
  obtain ⟨R, HQ⟩ : ∃ R, Hid (R = (linkB n tx prev)) := ⟨_, rfl⟩
  rw [← HQ.out]
  clear hsW b0 HZ
  go_enter Tryz.func55, Tryz.ntmps55
  have x0 := (HX.out W (Below.refl _ _)).cell 0 _ rfl
  have x1 := (HX.out W (Below.refl _ _)).cell 1 _ rfl
  go_wp2_with fail
  rw [hW.out]
  clear hW
  have l0 : Below W.heap.size W W := Below.refl _ _
  refine (linkOk_any n tx prev W).mono ?_
  clear x0 x1
  rintro e u0 ⟨rfl, hb0⟩
  have b_0 : Below w.heap.size w u0 := (hbW).trans (hb0.mono (hbW).size)
  have l_0 : Below W.heap.size W u0 := (l0).trans (hb0.mono (l0).size)
  have x0 := (HX.out u0 (l_0)).cell 0 _ rfl
  have x1 := (HX.out u0 (l_0)).cell 1 _ rfl
  clear hb0
  have HR : Hid (R = linkB n tx prev) := HQ.out
  generalize linkB n tx prev = G at *
  go_wp2
  go_ret
  exact ⟨ret_bool HR.out.symm, b_0⟩
set_option maxHeartbeats 2000000 in
set_option maxRecDepth 100000 in
theorem deedOk_end (n : Int) (tx prev : Int) (w : World) :
    Calls Tryz.prog 55 #[.int .i64 n, isendDeed (linkD tx prev)] w fun e w' => e = .returned (.bool (linkB n tx prev)) ∧ Below w.heap.size w w' := by
  obtain ⟨W, hW, b0, hbW, hsW⟩ := boxes1 w [.int .i64 tx, .int .i64 prev] 120
  have HZ : Hid (∀ R, R = (linkB n tx prev) → R = (linkB n tx prev)) := fun _ h => h
  simp only [isendDeed, linkD]
  have a_setDeed := fun W => no_setDeed W 120 (.agg #[.int .i64 tx, .int .i64 prev]) (by decide)
  have a_commitDeed := fun W => no_commitDeed W 120 (.agg #[.int .i64 tx, .int .i64 prev]) (by decide)
  have a_abortDeed := fun W => no_abortDeed W 120 (.agg #[.int .i64 tx, .int .i64 prev]) (by decide)
  have a_backDeed := fun W => no_backDeed W 120 (.agg #[.int .i64 tx, .int .i64 prev]) (by decide)
  have a_endDeed := fun W => yes_endDeed W (.agg #[.int .i64 tx, .int .i64 prev])
  have HX : Hid (∀ u, Below W.heap.size W u → Box u w.heap.size [.int .i64 tx, .int .i64 prev] 120) := fun u hu => b0.below hu b0.lt
  obtain ⟨R, HQ⟩ : ∃ R, Hid (R = (linkB n tx prev)) := ⟨_, rfl⟩
  rw [← HQ.out]
  clear hsW b0 HZ
  go_enter Tryz.func55, Tryz.ntmps55
  have x0 := (HX.out W (Below.refl _ _)).cell 0 _ rfl
  have x1 := (HX.out W (Below.refl _ _)).cell 1 _ rfl
  go_wp2_with fail
  rw [hW.out]
  clear hW
  have l0 : Below W.heap.size W W := Below.refl _ _
  refine (linkOk_any n tx prev W).mono ?_
  clear x0 x1
  rintro e u0 ⟨rfl, hb0⟩
  have b_0 : Below w.heap.size w u0 := (hbW).trans (hb0.mono (hbW).size)
  have l_0 : Below W.heap.size W u0 := (l0).trans (hb0.mono (l0).size)
  have x0 := (HX.out u0 (l_0)).cell 0 _ rfl
  have x1 := (HX.out u0 (l_0)).cell 1 _ rfl
  clear hb0
  have HR : Hid (R = linkB n tx prev) := HQ.out
  generalize linkB n tx prev = G at *
  go_wp2
  go_ret
  exact ⟨ret_bool HR.out.symm, b_0⟩
set_option maxHeartbeats 2000000 in
set_option maxRecDepth 100000 in
theorem deedOk_back (n : Int) (tx prev oid : Int) (a : SlotA) (next : Int) (w : World) (hg : ErrT w) (ha : a.reads w) (hla : Fit [a]) :
    Calls Tryz.prog 55 #[.int .i64 n, isbackDeed (backD tx prev oid a next)] w fun e w' => e = .returned (.bool (linkB n tx prev && (inB oid 1 31 && (slotB a.v && (inB next 0 (n - 1)))))) ∧ Below w.heap.size w w' := by
  obtain ⟨W, hW, b0, hbW, hsW⟩ := boxes1 w [.int .i64 tx, .int .i64 prev, .int .i64 oid, .bool a.v.has, .int .i64 a.v.o.kind, .slice a.aI a.v.o.ints.length a.cI, .slice a.aR a.v.o.refs.length a.cR, .int .i64 next] 119
  have HZ : Hid (∀ R, R = (linkB n tx prev && (inB oid 1 31 && (slotB a.v && (inB next 0 (n - 1))))) → R = (linkB n tx prev && (inB oid 1 31 && (slotB a.v && (inB next 0 (n - 1)))))) := fun _ h => h
  simp only [isbackDeed, backD]
  have a_setDeed := fun W => no_setDeed W 119 (.agg #[.int .i64 tx, .int .i64 prev, .int .i64 oid, .bool a.v.has, .int .i64 a.v.o.kind, .slice a.aI a.v.o.ints.length a.cI, .slice a.aR a.v.o.refs.length a.cR, .int .i64 next]) (by decide)
  have a_commitDeed := fun W => no_commitDeed W 119 (.agg #[.int .i64 tx, .int .i64 prev, .int .i64 oid, .bool a.v.has, .int .i64 a.v.o.kind, .slice a.aI a.v.o.ints.length a.cI, .slice a.aR a.v.o.refs.length a.cR, .int .i64 next]) (by decide)
  have a_abortDeed := fun W => no_abortDeed W 119 (.agg #[.int .i64 tx, .int .i64 prev, .int .i64 oid, .bool a.v.has, .int .i64 a.v.o.kind, .slice a.aI a.v.o.ints.length a.cI, .slice a.aR a.v.o.refs.length a.cR, .int .i64 next]) (by decide)
  have a_backDeed := fun W => yes_backDeed W (.agg #[.int .i64 tx, .int .i64 prev, .int .i64 oid, .bool a.v.has, .int .i64 a.v.o.kind, .slice a.aI a.v.o.ints.length a.cI, .slice a.aR a.v.o.refs.length a.cR, .int .i64 next])
  have HX : Hid (∀ u, Below W.heap.size W u → Box u w.heap.size [.int .i64 tx, .int .i64 prev, .int .i64 oid, .bool a.v.has, .int .i64 a.v.o.kind, .slice a.aI a.v.o.ints.length a.cI, .slice a.aR a.v.o.refs.length a.cR, .int .i64 next] 119) := fun u hu => b0.below hu b0.lt
  obtain ⟨R, HQ⟩ : ∃ R, Hid (R = (linkB n tx prev && (inB oid 1 31 && (slotB a.v && (inB next 0 (n - 1)))))) := ⟨_, rfl⟩
  rw [← HQ.out]
  clear hsW b0 HZ
  go_enter Tryz.func55, Tryz.ntmps55
  have x0 := (HX.out W (Below.refl _ _)).cell 0 _ rfl
  have x1 := (HX.out W (Below.refl _ _)).cell 1 _ rfl
  have x2 := (HX.out W (Below.refl _ _)).cell 2 _ rfl
  have x3 := (HX.out W (Below.refl _ _)).cell 3 _ rfl
  have x4 := (HX.out W (Below.refl _ _)).cell 4 _ rfl
  have x5 := (HX.out W (Below.refl _ _)).cell 5 _ rfl
  have x6 := (HX.out W (Below.refl _ _)).cell 6 _ rfl
  have x7 := (HX.out W (Below.refl _ _)).cell 7 _ rfl
  go_wp2_with fail
  rw [hW.out]
  clear hW
  have l0 : Below W.heap.size W W := Below.refl _ _
  refine (linkOk_any n tx prev W).mono ?_
  clear x0 x1 x2 x3 x4 x5 x6 x7
  rintro e u0 ⟨rfl, hb0⟩
  have b_0 : Below w.heap.size w u0 := (hbW).trans (hb0.mono (hbW).size)
  have l_0 : Below W.heap.size W u0 := (l0).trans (hb0.mono (l0).size)
  have x0 := (HX.out u0 (l_0)).cell 0 _ rfl
  have x1 := (HX.out u0 (l_0)).cell 1 _ rfl
  have x2 := (HX.out u0 (l_0)).cell 2 _ rfl
  have x3 := (HX.out u0 (l_0)).cell 3 _ rfl
  have x4 := (HX.out u0 (l_0)).cell 4 _ rfl
  have x5 := (HX.out u0 (l_0)).cell 5 _ rfl
  have x6 := (HX.out u0 (l_0)).cell 6 _ rfl
  have x7 := (HX.out u0 (l_0)).cell 7 _ rfl
  clear hb0
  cases h0 : linkB n tx prev with
  | false =>
    have HR : Hid (R = false) := by rw [Hid, HQ.out]; simp [h0]
    go_wp2
    go_ret
    exact ⟨ret_bool HR.out.symm, b_0⟩
  | true =>
    go_wp2_with fail
    refine (oidOk_any oid u0).mono ?_
    rintro e v ⟨rfl, hv⟩
    rw [hv]
    clear hv v
    cases h1 : inB oid 1 31 with
    | false =>
      have HR : Hid (R = false) := by rw [Hid, HQ.out]; simp [h0, h1]
      go_wp2
      go_ret
      exact ⟨ret_bool HR.out.symm, b_0⟩
    | true =>
      go_wp2_with fail
      refine (slotOk_any a u0 (hg.keep (b_0)) (ReadsO.below ha (b_0)) hla).mono ?_
      clear x0 x1 x2 x3 x4 x5 x6 x7
      rintro e u2 ⟨rfl, hb2⟩
      have b_2 : Below w.heap.size w u2 := (b_0).trans (hb2.mono (b_0).size)
      have l_2 : Below W.heap.size W u2 := (l_0).trans (hb2.mono (l_0).size)
      have x0 := (HX.out u2 (l_2)).cell 0 _ rfl
      have x1 := (HX.out u2 (l_2)).cell 1 _ rfl
      have x2 := (HX.out u2 (l_2)).cell 2 _ rfl
      have x3 := (HX.out u2 (l_2)).cell 3 _ rfl
      have x4 := (HX.out u2 (l_2)).cell 4 _ rfl
      have x5 := (HX.out u2 (l_2)).cell 5 _ rfl
      have x6 := (HX.out u2 (l_2)).cell 6 _ rfl
      have x7 := (HX.out u2 (l_2)).cell 7 _ rfl
      clear hb2
      cases h2 : slotB a.v with
      | false =>
        have HR : Hid (R = false) := by rw [Hid, HQ.out]; simp [h0, h1, h2]
        go_wp2
        go_ret
        exact ⟨ret_bool HR.out.symm, b_2⟩
      | true =>
        go_wp2_with fail
        refine (isAhead_any n next u2).mono ?_
        rintro e v ⟨rfl, hv⟩
        rw [hv]
        clear hv v
        have HR : Hid (R = inB next 0 (n - 1)) := by rw [Hid, HQ.out]; simp [h0, h1, h2]
        generalize inB next 0 (n - 1) = G at *
        go_wp2
        go_ret
        exact ⟨ret_bool HR.out.symm, b_2⟩
set_option maxHeartbeats 2000000 in
set_option maxRecDepth 100000 in
theorem deedOk_check (n : Int) (ls : List LiveV) (aL : Option Addr) (cL : Nat) (w : World) (hr : ReadsL w aL ls) (hl : ls.length ≤ 1099511627776) :
    Calls Tryz.prog 55 #[.int .i64 n, ischeckDeed (checkD ls aL cL)] w fun e w' => e = .returned (.bool (livesB n ls)) ∧ Below w.heap.size w w' := by
  obtain ⟨W, hW, b0, hbW, hsW⟩ := boxes1 w [.slice aL ls.length cL] 122
  have HZ : Hid (∀ R, R = (livesB n ls) → R = (livesB n ls)) := fun _ h => h
  simp only [ischeckDeed, checkD]
  have a_setDeed := fun W => no_setDeed W 122 (.agg #[.slice aL ls.length cL]) (by decide)
  have a_commitDeed := fun W => no_commitDeed W 122 (.agg #[.slice aL ls.length cL]) (by decide)
  have a_abortDeed := fun W => no_abortDeed W 122 (.agg #[.slice aL ls.length cL]) (by decide)
  have a_backDeed := fun W => no_backDeed W 122 (.agg #[.slice aL ls.length cL]) (by decide)
  have a_endDeed := fun W => no_endDeed W 122 (.agg #[.slice aL ls.length cL]) (by decide)
  have a_checkDeed := fun W => yes_checkDeed W (.agg #[.slice aL ls.length cL])
  have HX : Hid (∀ u, Below W.heap.size W u → Box u w.heap.size [.slice aL ls.length cL] 122) := fun u hu => b0.below hu b0.lt
  obtain ⟨R, HQ⟩ : ∃ R, Hid (R = (livesB n ls)) := ⟨_, rfl⟩
  rw [← HQ.out]
  clear hsW b0 HZ
  go_enter Tryz.func55, Tryz.ntmps55
  have x0 := (HX.out W (Below.refl _ _)).cell 0 _ rfl
  go_wp2_with fail
  rw [hW.out]
  clear hW
  have l0 : Below W.heap.size W W := Below.refl _ _
  refine (livesOk_any n aL cL ls W (hr.below (hbW)) hl).mono ?_
  clear x0
  rintro e u0 ⟨rfl, hb0⟩
  have b_0 : Below w.heap.size w u0 := (hbW).trans (hb0.mono (hbW).size)
  have l_0 : Below W.heap.size W u0 := (l0).trans (hb0.mono (l0).size)
  have x0 := (HX.out u0 (l_0)).cell 0 _ rfl
  clear hb0
  have HR : Hid (R = livesB n ls) := HQ.out
  generalize livesB n ls = G at *
  go_wp2
  go_ret
  exact ⟨ret_bool HR.out.symm, b_0⟩
set_option maxHeartbeats 400000 in
theorem deedOk_nil (n : Int) (w : World) : Calls Tryz.prog 55 #[.int .i64 n, .nilIface] w fun e w' => e = .returned (.bool false) ∧ Below w.heap.size w w' := by
  have a_setDeed := nil_setDeed
  have a_commitDeed := nil_commitDeed
  have a_abortDeed := nil_abortDeed
  have a_backDeed := nil_backDeed
  have a_endDeed := nil_endDeed
  have a_checkDeed := nil_checkDeed
  go_enter Tryz.func55, Tryz.ntmps55
  go_wp2
  go_ret
  exact ⟨rfl, Below.refl _ _⟩
end Go.Proofs.YtickiokdcbeefaaGreatDoor
