/- Several texts in one, in their order. -/
import Derived.Test.YtajcffchopcamaaGreatDoorPEvalx23
import Derived.Test.YtajcffchopcamaaGreatDoorPEvalx17
import Derived.Test.YtajcffchopcamaaGreatDoorProg
import Derived.Test.YtajcffchopcamaaGreatDoorPEvalx2
import Derived.LaidEql
import Derived.Stop.Asserts
import Derived.RowKitTokens
import Derived.Test.YtajcffchopcamaaGreatDoorPEvalx3
import Derived.Test.YtajcffchopcamaaGreatDoorPEvalx9
import Derived.Test.YtajcffchopcamaaGreatDoorPEvalx16
import Derived.Test.YtajcffchopcamaaGreatDoorPEvalx21
import Derived.Test.YtajcffchopcamaaGreatDoorPEvalx19
/- What comes of a path in a view: plain mathematics. -/
namespace Go.Proofs.YtajcffchopcamaaGreatDoor

theorem reachL_in {S : List Bool} (hS : S.length = 32) (k : Int) : k ∈ reachL S ↔ (0 ≤ k ∧ metM S k = true) := by
  unfold reachL
  rw [List.mem_filter, List.mem_map]
  constructor
  · rintro ⟨⟨i, _, rfl⟩, h⟩
    exact ⟨by omega, h⟩
  · rintro ⟨h1, h2⟩
    refine ⟨⟨k.toNat, List.mem_range.2 ?_, by omega⟩, h2⟩
    rcases Nat.lt_or_ge k.toNat 32 with h | h
    · exact h
    · rw [metM_out hS (by omega)] at h2; cases h2
def kindM (vs : List SlotV) (i : Int) : Int := (vs.getD i.toNat noS).o.kind
def intsM (vs : List SlotV) (i : Int) : List Int := (vs.getD i.toNat noS).o.ints
def overB (n : Int) (l : List Int) : Bool := l.any (fun i => decide (n < i))
/-- What comes of one object by a step. -/
def comesL (vs : List SlotV) (s : StepV) (k : Int) : List Int :=
  if s.kd = 1 then (if s.num.toNat < (refsM vs k).length then [(refsM vs k).getD s.num.toNat 0].filter (hasM vs) else [])
  else if s.kd = 2 then (refsM vs k).filter (hasM vs)
  else if s.kd = 3 then reachL (runM vs 40 k).met
  else if s.kd = 4 then (if kindM vs k = s.num then [k] else [])
  else (if overB s.num (intsM vs k) = true then [k] else [])
def setAll (A : List Bool) (l : List Int) : List Bool := l.foldl (fun A x => A.set x.toNat true) A
def comesS (vs : List SlotV) (s : StepV) (A : List Bool) (k : Int) : List Bool := setAll A (comesL vs s k)
def noneS : List Bool := List.replicate 32 false
def nextS (vs : List SlotV) (s : StepV) (S : List Bool) : List Bool := (reachL S).foldl (comesS vs s) noneS
def startS (vs : List SlotV) (x : Int) : List Bool := noneS.set x.toNat (hasM vs x)
/-- The marks behind the first n steps. -/
def evalTo (vs : List SlotV) (x : Int) (T : List StepV) (n : Nat) : List Bool := (T.take n).foldl (fun S s => nextS vs s S) (startS vs x)
def evalV (vs : List SlotV) (x : Int) (T : List StepV) : List Int := if (viewB vs && pathB x T) = true then reachL (evalTo vs x T T.length) else []

theorem comes_1 (vs : List SlotV) (n : Int) (k : Int) : comesL vs ⟨1, n⟩ k = if n.toNat < (refsM vs k).length then [(refsM vs k).getD n.toNat 0].filter (hasM vs) else [] := by simp only [comesL]; rw [if_pos trivial]
theorem comes_2 (vs : List SlotV) (n : Int) (k : Int) : comesL vs ⟨2, n⟩ k = (refsM vs k).filter (hasM vs) := by simp only [comesL]; rw [if_neg (by decide), if_pos trivial]
theorem comes_3 (vs : List SlotV) (n : Int) (k : Int) : comesL vs ⟨3, n⟩ k = reachL (runM vs 40 k).met := by simp only [comesL]; rw [if_neg (by decide), if_neg (by decide), if_pos trivial]
theorem comes_4 (vs : List SlotV) (n : Int) (k : Int) : comesL vs ⟨4, n⟩ k = if kindM vs k = n then [k] else [] := by simp only [comesL]; rw [if_neg (by decide), if_neg (by decide), if_neg (by decide), if_pos trivial]
theorem comes_5 (vs : List SlotV) (n : Int) (k : Int) : comesL vs ⟨5, n⟩ k = if overB n (intsM vs k) = true then [k] else [] := by simp only [comesL]; rw [if_neg (by decide), if_neg (by decide), if_neg (by decide), if_neg (by decide)]
theorem setAll_nil (A : List Bool) : setAll A [] = A := rfl
theorem setAll_one (A : List Bool) (k : Nat) : setAll A [(k : Int)] = A.set k true := by simp [setAll]
theorem setAll_len (l : List Int) : ∀ A : List Bool, (setAll A l).length = A.length := by
  induction l with
  | nil => intro A; rfl
  | cons x l ih => intro A; rw [setAll, List.foldl_cons]; have := ih (A.set x.toNat true); rw [setAll] at this; rw [this]; simp
theorem comesS_len (vs : List SlotV) (s : StepV) (A : List Bool) (k : Int) : (comesS vs s A k).length = A.length := setAll_len _ A
theorem foldS_len (vs : List SlotV) (s : StepV) (l : List Int) : ∀ A : List Bool, (l.foldl (comesS vs s) A).length = A.length := by
  induction l with
  | nil => intro A; rfl
  | cons x l ih => intro A; rw [List.foldl_cons, ih, comesS_len]
theorem noneS_len : noneS.length = 32 := by simp [noneS]
theorem nextS_len (vs : List SlotV) (s : StepV) (S : List Bool) : (nextS vs s S).length = 32 := by rw [nextS, foldS_len, noneS_len]
theorem startS_len (vs : List SlotV) (x : Int) : (startS vs x).length = 32 := by rw [startS, List.length_set, noneS_len]
theorem evalTo_step (vs : List SlotV) (x : Int) (T : List StepV) {n : Nat} (hn : n < T.length) : evalTo vs x T (n + 1) = nextS vs (T.getD n zeroPh) (evalTo vs x T n) := by
  have e : T.take (n + 1) = T.take n ++ [T.getD n zeroPh] := by rw [List.take_add_one]; simp [List.getD, hn]
  unfold evalTo
  rw [e, List.foldl_append]
  rfl
theorem evalTo_len (vs : List SlotV) (x : Int) (T : List StepV) (n : Nat) : (evalTo vs x T n).length = 32 := by
  unfold evalTo
  generalize T.take n = l
  have : ∀ S : List Bool, S.length = 32 → (l.foldl (fun S s => nextS vs s S) S).length = 32 := by
    induction l with
    | nil => intro S h; exact h
    | cons s l ih => intro S h; rw [List.foldl_cons]; exact ih _ (nextS_len vs s S)
  exact this _ (startS_len vs x)

theorem pathB_from' {x : Int} {T : List StepV} (h : pathB x T = true) : 1 ≤ x ∧ x ≤ 31 := by
  simp only [pathB, inB, Bool.and_eq_true, decide_eq_true_eq] at h
  exact h.2.1

/-- Marks of what is there, reached from the root. -/
structure GoodS (vs : List SlotV) (root : Int) (S : List Bool) : Prop where
  len : S.length = 32
  rch : ∀ k, 0 ≤ k → metM S k = true → ReachM vs root k
theorem metM_none (i : Int) : metM noneS i = false := by
  unfold metM noneS
  rw [List.getD_eq_getElem?_getD, List.getElem?_replicate]
  split <;> rfl
theorem reachM_trans {vs : List SlotV} {a b c : Int} (h : ReachM vs a b) (g : ReachM vs b c) : ReachM vs a c := by
  induction g with
  | root _ => exact h
  | step _ h2 h3 ih => exact .step ih h2 h3
theorem comesL_rch {vs : List SlotV} (hv : RngM vs) {root : Int} {s : StepV} {k : Int} (hk : 0 ≤ k ∧ k ≤ 31) (h : ReachM vs root k) : ∀ x ∈ comesL vs s k, (0 ≤ x ∧ x ≤ 31) ∧ ReachM vs root x := by
  intro x hx
  unfold comesL at hx
  split at hx
  · split at hx
    · obtain ⟨h1, h2⟩ := List.mem_filter.1 hx
      rename_i hlt
      simp only [List.mem_singleton] at h1
      have hm : x ∈ refsM vs k := by
        rw [h1]
        simp [List.getD, hlt]
      exact ⟨hv _ _ hm, .step h hm h2⟩
    · cases hx
  split at hx
  · obtain ⟨h1, h2⟩ := List.mem_filter.1 hx
    exact ⟨hv _ _ h1, .step h h1 h2⟩
  split at hx
  · obtain ⟨hl, _, hi⟩ := runM_reach hv (most := 40) (by omega) (by omega) hk
    obtain ⟨h1, h2⟩ := (reachL_in hl x).1 hx
    have h3 := (hi x h1).1 h2
    exact ⟨ReachM.rng hv hk h3, reachM_trans h h3⟩
  split at hx
  · split at hx
    · simp only [List.mem_singleton] at hx; subst hx; exact ⟨hk, h⟩
    · cases hx
  · split at hx
    · simp only [List.mem_singleton] at hx; subst hx; exact ⟨hk, h⟩
    · cases hx
theorem setAll_good {vs : List SlotV} {root : Int} (l : List Int) (hl : ∀ x ∈ l, (0 ≤ x ∧ x ≤ 31) ∧ ReachM vs root x) : ∀ {A : List Bool}, GoodS vs root A → GoodS vs root (setAll A l) := by
  induction l with
  | nil => intro A h; exact h
  | cons x l ih =>
    intro A h
    refine ih (fun y hy => hl y (List.mem_cons_of_mem _ hy)) (A := A.set x.toNat true) ⟨by rw [List.length_set]; exact h.len, fun k hk hm => ?_⟩
    obtain ⟨h1, h2⟩ := hl x List.mem_cons_self
    rw [metM_set h.len h1 hk] at hm
    simp only [Bool.or_eq_true, decide_eq_true_eq] at hm
    rcases hm with hm | rfl
    · exact h.rch k hk hm
    · exact h2
theorem foldS_good {vs : List SlotV} (hv : RngM vs) {root : Int} {s : StepV} (l : List Int) (hl : ∀ x ∈ l, (0 ≤ x ∧ x ≤ 31) ∧ ReachM vs root x) : ∀ {A : List Bool}, GoodS vs root A → GoodS vs root (l.foldl (comesS vs s) A) := by
  induction l with
  | nil => intro A h; exact h
  | cons x l ih =>
    intro A h
    obtain ⟨h1, h2⟩ := hl x List.mem_cons_self
    exact ih (fun y hy => hl y (List.mem_cons_of_mem _ hy)) (setAll_good _ (comesL_rch hv h1 h2) h)
theorem noneS_good (vs : List SlotV) (root : Int) : GoodS vs root noneS := ⟨noneS_len, fun k _ hm => by rw [metM_none] at hm; cases hm⟩
theorem GoodS.mem {vs : List SlotV} {root : Int} {S : List Bool} (h : GoodS vs root S) : ∀ x ∈ reachL S, (0 ≤ x ∧ x ≤ 31) ∧ ReachM vs root x := by
  intro x hx
  obtain ⟨h1, h2⟩ := (reachL_in h.len x).1 hx
  have h3 : x < 32 := by
    rcases Int.lt_or_le x 32 with g | g
    · exact g
    · rw [metM_out h.len g] at h2; cases h2
  exact ⟨by omega, h.rch x h1 h2⟩
theorem nextS_good {vs : List SlotV} (hv : RngM vs) {root : Int} {s : StepV} {S : List Bool} (h : GoodS vs root S) : GoodS vs root (nextS vs s S) := foldS_good hv _ h.mem (noneS_good vs root)
theorem startS_good {vs : List SlotV} {x : Int} (hx : 1 ≤ x ∧ x ≤ 31) : GoodS vs x (startS vs x) := by
  refine ⟨startS_len vs x, fun k hk hm => ?_⟩
  unfold startS at hm
  cases hh : hasM vs x with
  | true =>
    rw [hh, metM_set noneS_len (by omega) hk, metM_none] at hm
    simp only [Bool.false_or, decide_eq_true_eq] at hm
    subst hm
    exact .root hh
  | false =>
    rw [hh] at hm
    have e : metM (noneS.set x.toNat false) k = false := by
      unfold metM noneS
      rw [List.getD_eq_getElem?_getD, List.getElem?_set, List.getElem?_replicate]
      repeat' split
      all_goals rfl
    rw [e] at hm
    cases hm
theorem evalTo_good {vs : List SlotV} (hv : RngM vs) {x : Int} (hx : 1 ≤ x ∧ x ≤ 31) (T : List StepV) (n : Nat) : GoodS vs x (evalTo vs x T n) := by
  unfold evalTo
  generalize T.take n = l
  have : ∀ {S : List Bool}, GoodS vs x S → GoodS vs x (l.foldl (fun S s => nextS vs s S) S) := by
    induction l with
    | nil => intro S h; exact h
    | cons s l ih => intro S h; exact ih (nextS_good hv h)
  exact this (startS_good hx)
end Go.Proofs.YtajcffchopcamaaGreatDoor

/- errors.As at a noObject: the walks of errors.As and of impl.isNoObject. -/
namespace Go.Proofs.YtajcffchopcamaaGreatDoor
open Go.RowKit Go.Extern.Stop Go.Stop Go.Extern

/-- The variable errors.errorType holds the handle of the type error. -/
def ErrT (w : World) : Prop := w.cell? ⟨6, 0, none⟩ = some (.iface 216 (.agg #[.pointer (some ⟨7, 127, none⟩)]))

theorem ErrT.lt {w : World} (h : ErrT w) : 6 < w.heap.size := by
  unfold ErrT at h
  rcases Nat.lt_or_ge 6 w.heap.size with h0 | h0
  · exact h0
  · simp [World.cell?, Array.getElem?_eq_none h0] at h
theorem ErrT.below {w w' : World} {n : Nat} (h : ErrT w) (hb : Below n w w') (hn : 6 < n) : ErrT w' := by
  unfold ErrT at h ⊢
  rw [hb.cell (p := ⟨6, 0, none⟩) hn]
  exact h
theorem ErrT.keep {w w' : World} (h : ErrT w) (hb : Below w.heap.size w w') : ErrT w' := h.below hb h.lt

theorem Tryz.asValueOfP (t : Addr) (w : World) : (ReflectliteValue.unpack (.iface 184 (.pointer (some t)))).run Tryz.prog w
    = .ok (.agg #[.pointer (some ⟨7, 184, none⟩), .pointer (some ⟨w.heap.size, 0, none⟩), .int .u64 150]) (w.alloc (.cells #[.pointer (some t)] 184)) := by kernel_rfl
theorem Tryz.asTypeP (a : Addr) (w : World) : (ReflectliteValue.methodAny (ReflectliteValue.valueError "reflectlite.Value.Type" 0) (fun t _ _ _ => ReflectliteType.toType t) #[.agg #[.pointer (some ⟨7, 184, none⟩), .pointer (some a), .int .u64 150]]).run Tryz.prog w
    = .ok (.iface 216 (.agg #[.pointer (some ⟨7, 184, none⟩)])) w := by kernel_rfl
theorem Tryz.asMethodKind (h : Value) (w : World) : (Go.method 357 216 (.agg #[h]) "Kind").run Tryz.prog w = .ok (179, h) w := by kernel_rfl
theorem Tryz.asKindP (w : World) : ((ReflectliteType.abiMethod fun t => (fun a : Nat => Value.int IntKind.u8 (a : Int)) <$> Rtype.kind t) #[.pointer (some ⟨7, 184, none⟩)]).run Tryz.prog w = .ok (.int .u8 22) w := by kernel_rfl
theorem Tryz.asKindS (w : World) : ((ReflectliteType.abiMethod fun t => (fun a : Nat => Value.int IntKind.u8 (a : Int)) <$> Rtype.kind t) #[.pointer (some ⟨7, 182, none⟩)]).run Tryz.prog w = .ok (.int .u8 25) w := by kernel_rfl

theorem rlm (z : Sem Value) (f : TypeId → Addr → Nat → Nat → Sem Value) (v : Value) :
    ReflectliteValue.method z f #[v] = (do match ← ReflectliteValue.parts v with | none => z | some (t, a, fl) => f t a fl (fl % 32)) := rfl
theorem Tryz.asPartsP (a : Addr) (w : World) : (ReflectliteValue.parts (.agg #[.pointer (some ⟨7, 184, none⟩), .pointer (some a), .int .u64 150])).run Tryz.prog w = .ok (some (184, a, 150)) w := by kernel_rfl
theorem Tryz.asIsNilP (a p : Addr) (W : World) (ha : W.cell? a = some (.pointer (some p))) :
    (ReflectliteValue.method (ReflectliteValue.valueError "reflectlite.Value.IsNil" 0) ReflectliteValue.isNil #[.agg #[.pointer (some ⟨7, 184, none⟩), .pointer (some a), .int .u64 150]]).run Tryz.prog W = .ok (.bool false) W := by
  rw [rlm]
  simp only [Sem.run_bind, Tryz.asPartsP, Result.andThen]
  simp [ReflectliteValue.isNil, loadVar, isAgg, underlying, Tryz.underlying184, ha, Result.andThen]

theorem Tryz.asMethodElem (h : Value) (w : World) : (Go.method 357 216 (.agg #[h]) "Elem").run Tryz.prog w = .ok (193, .agg #[h]) w := by kernel_rfl
theorem Tryz.asMethodImplements (h : Value) (w : World) : (Go.method 357 216 (.agg #[h]) "Implements").run Tryz.prog w = .ok (194, .agg #[h]) w := by kernel_rfl
theorem Tryz.asMethodAssignableTo (h : Value) (w : World) : (Go.method 357 216 (.agg #[h]) "AssignableTo").run Tryz.prog w = .ok (191, .agg #[h]) w := by kernel_rfl
theorem Tryz.asElemP (w : World) : (ReflectliteType.method ReflectliteType.elem #[.agg #[.pointer (some ⟨7, 184, none⟩)]]).run Tryz.prog w = .ok (.iface 216 (.agg #[.pointer (some ⟨7, 182, none⟩)])) w := by kernel_rfl
theorem Tryz.asImplementsS (w : World) : (ReflectliteType.relation "Implements" ReflectliteType.implements_ #[.agg #[.pointer (some ⟨7, 182, none⟩)], .iface 216 (.agg #[.pointer (some ⟨7, 127, none⟩)])]).run Tryz.prog w = .ok (.bool true) w := by kernel_rfl
theorem Tryz.asTypeOfS (v : Value) (w : World) : (ReflectliteType.typeOf #[.iface 182 v]).run Tryz.prog w = .ok (.iface 216 (.agg #[.pointer (some ⟨7, 182, none⟩)])) w := by kernel_rfl
theorem Tryz.asAssignableS (w : World) : (ReflectliteType.relation "AssignableTo" ReflectliteType.assignableTo #[.agg #[.pointer (some ⟨7, 182, none⟩)], .iface 216 (.agg #[.pointer (some ⟨7, 182, none⟩)])]).run Tryz.prog w = .ok (.bool true) w := by kernel_rfl
theorem Tryz.asValueOfS (s : ByteArray) (w : World) : (ReflectliteValue.unpack (.iface 182 (.agg #[.string s]))).run Tryz.prog w
    = .ok (.agg #[.pointer (some ⟨7, 182, none⟩), .pointer (some ⟨w.heap.size, 0, none⟩), .int .u64 153]) (w.alloc (.cells #[.string s] 182)) := by kernel_rfl

theorem Tryz.asElemOfP (w : World) : (Rtype.elem? 184).run Tryz.prog w = .ok (some 182) w := by kernel_rfl
theorem Tryz.asMkS (p : Addr) (w : World) : (ReflectliteValue.mk 182 p ReflectliteValue.flagAddr).run Tryz.prog w = .ok (.agg #[.pointer (some ⟨7, 182, none⟩), .pointer (some p), .int .u64 409]) w := by kernel_rfl
theorem Tryz.asElemV (a p : Addr) (W : World) (ha : W.cell? a = some (.pointer (some p))) :
    (ReflectliteValue.method (ReflectliteValue.valueError "reflectlite.Value.Elem" 0) ReflectliteValue.elem #[.agg #[.pointer (some ⟨7, 184, none⟩), .pointer (some a), .int .u64 150]]).run Tryz.prog W
      = .ok (.agg #[.pointer (some ⟨7, 182, none⟩), .pointer (some p), .int .u64 409]) W := by
  rw [rlm]
  simp only [Sem.run_bind, Tryz.asPartsP, Result.andThen]
  simp [ReflectliteValue.elem, loadVar, isAgg, underlying, Tryz.underlying184, ha, Result.andThen, Tryz.asElemOfP, Tryz.asMkS]
theorem rls (v x : Value) : ReflectliteValue.set #[v, x] = (do
    let (some (dst, a, fl), some (src, b, _)) := (← ReflectliteValue.parts v, ← ReflectliteValue.parts x)
      | unsupported (.noEntry "extern/(internal/reflectlite.Value).Set.zeroValue")
    if fl / ReflectliteValue.flagAddr % 2 == 0 then unsupported (.noEntry "extern/(internal/reflectlite.Value).Set.unaddressable")
    let val ← loadVar src b
    if ← Rtype.directlyAssignable dst src then storeVar dst a val
    else if ← Rtype.implements dst src then
      if (← Rtype.kind src) == 20 then
        match val with
        | .nilIface => unsupported (.noEntry "extern/reflectlite: a nil value of one interface type handed on as a value of another")
        | _ => storeVar dst a val
      else storeVar dst a (.iface src val)
    else panicString ("reflectlite.Set: value of type " ++ (← Rtype.spelt src) ++ " is not assignable to type " ++ (← Rtype.spelt dst))
    pure (.tuple #[])) := rfl
theorem Tryz.asPartsSa (a : Addr) (w : World) : (ReflectliteValue.parts (.agg #[.pointer (some ⟨7, 182, none⟩), .pointer (some a), .int .u64 409])).run Tryz.prog w = .ok (some (182, a, 409)) w := by kernel_rfl
theorem Tryz.asPartsS (a : Addr) (w : World) : (ReflectliteValue.parts (.agg #[.pointer (some ⟨7, 182, none⟩), .pointer (some a), .int .u64 153])).run Tryz.prog w = .ok (some (182, a, 153)) w := by kernel_rfl
theorem Tryz.asDirectS (w : World) : (Rtype.directlyAssignable 182 182).run Tryz.prog w = .ok true w := by kernel_rfl
theorem Tryz.asSetS (ta b : Addr) (s : ByteArray) (old : Value) (W : World) (hb : W.cell? b = some (.string s)) (ht : W.cell? ta = some old) (hf : W.frozen? ta = false) :
    (ReflectliteValue.set #[.agg #[.pointer (some ⟨7, 182, none⟩), .pointer (some ta), .int .u64 409], .agg #[.pointer (some ⟨7, 182, none⟩), .pointer (some b), .int .u64 153]]).run Tryz.prog W
      = .ok (.tuple #[]) (W.setCell ta (.string s)) := by
  rw [rls]
  simp only [Sem.run_bind, Tryz.asPartsSa, Tryz.asPartsS, Result.andThen]
  simp [ReflectliteValue.flagAddr, loadVar, loadCells, loadCellsFrom, hb, Result.andThen, Tryz.asDirectS, storeVar, Value.cells, storeCells, Addr.add]
  rw [run_store Tryz.prog W ta _ _ (by rfl)]
  simp [ht, hf]

/-- errors.As(nil, target). -/
theorem as_nil (t : Value) (w : World) : Calls Tryz.prog 147 #[.nilIface, t] w fun e w' => e = .returned (.bool false) ∧ w' = w := by
  go_enter Tryz.func147, Tryz.ntmps147
  go_wp2
  go_ret
  exact ⟨rfl, rfl⟩

set_option maxHeartbeats 4000000 in
theorem as_hit (s : ByteArray) (t : Addr) (old : Value) (w : World) (hg : w.cell? ⟨6, 0, none⟩ = some (.iface 216 (.agg #[.pointer (some ⟨7, 127, none⟩)]))) (ht0 : w.cell? t = some old) (hf0 : w.frozen? t = false) :
    Calls Tryz.prog 147 #[.iface 182 (.agg #[.string s]), .iface 184 (.pointer (some t))] w fun ev w' => ev = .returned (.bool true) ∧ w' = ((((w.alloc (.cells #[.pointer (some t)] 184)).alloc (.cells #[.pointer (some ⟨7, 184, none⟩), .pointer (some ⟨w.heap.size, 0, none⟩), .int .u64 150] 202)).alloc (.cells #[.pointer (some ⟨7, 184, none⟩), .pointer (some ⟨w.heap.size, 0, none⟩), .int .u64 150] 202)).alloc (.cells #[.string s] 182)).setCell t (.string s) := by
  have h6 := @run_callFunc_extern Tryz.prog 157 _ (fun args => ReflectliteValue.unpack (args.getD 0 (.tuple #[]))) Tryz.func157 (by kernel_rfl) (by kernel_rfl) (by kernel_rfl) (by kernel_rfl)
  have h7 := @run_callFunc_extern Tryz.prog 158 _ (ReflectliteValue.methodAny (ReflectliteValue.valueError "reflectlite.Value.Type" 0) (fun t _ _ _ => ReflectliteType.toType t)) Tryz.func158 (by kernel_rfl) (by kernel_rfl) (by kernel_rfl) (by kernel_rfl)
  have h8 := @run_callFunc_extern Tryz.prog 159 _ (ReflectliteValue.method (ReflectliteValue.valueError "reflectlite.Value.IsNil" 0) ReflectliteValue.isNil) Tryz.func159 (by kernel_rfl) (by kernel_rfl) (by kernel_rfl) (by kernel_rfl)
  have h27 := @run_callFunc_extern Tryz.prog 179 _ (ReflectliteType.abiMethod fun t => do pure (.int .u8 (← Rtype.kind t))) Tryz.func179 (by kernel_rfl) (by kernel_rfl) (by kernel_rfl) (by kernel_rfl)
  have h37 := @run_callFunc_extern Tryz.prog 193 _ (ReflectliteType.method ReflectliteType.elem) Tryz.func193 (by kernel_rfl) (by kernel_rfl) (by kernel_rfl) (by kernel_rfl)
  have h38 := @run_callFunc_extern Tryz.prog 194 _ (ReflectliteType.relation "Implements" ReflectliteType.implements_) Tryz.func194 (by kernel_rfl) (by kernel_rfl) (by kernel_rfl) (by kernel_rfl)
  have h10 := @run_callFunc_extern Tryz.prog 162 _ ReflectliteType.typeOf Tryz.func162 (by kernel_rfl) (by kernel_rfl) (by kernel_rfl) (by kernel_rfl)
  have h35 := @run_callFunc_extern Tryz.prog 191 _ (ReflectliteType.relation "AssignableTo" ReflectliteType.assignableTo) Tryz.func191 (by kernel_rfl) (by kernel_rfl) (by kernel_rfl) (by kernel_rfl)
  have h11 := @run_callFunc_extern Tryz.prog 163 _ (ReflectliteValue.method (ReflectliteValue.valueError "reflectlite.Value.Elem" 0) ReflectliteValue.elem) Tryz.func163 (by kernel_rfl) (by kernel_rfl) (by kernel_rfl) (by kernel_rfl)
  have h12 := @run_callFunc_extern Tryz.prog 164 _ ReflectliteValue.set Tryz.func164 (by kernel_rfl) (by kernel_rfl) (by kernel_rfl) (by kernel_rfl)
  have tO := Tryz.asTypeOfS
  have mA := Tryz.asMethodAssignableTo
  have a25 := Tryz.asAssignableS
  have v25 := Tryz.asValueOfS
  have f6 := Tryz.asValueOfP
  have f7 := Tryz.asTypeP
  have mK := Tryz.asMethodKind
  have mE := Tryz.asMethodElem
  have mI := Tryz.asMethodImplements
  have k27 := Tryz.asKindP
  have k25 := Tryz.asKindS
  have e27 := Tryz.asElemP
  have i25 := Tryz.asImplementsS
  have n8 := Tryz.asIsNilP ⟨w.heap.size, 0, none⟩ t ((w.alloc (.cells #[.pointer (some t)] 184)).alloc (.cells #[.pointer (some ⟨7, 184, none⟩), .pointer (some ⟨w.heap.size, 0, none⟩), .int .u64 150] 202)) (by simp)
  have hlt : 6 < w.heap.size := by
    rcases Nat.lt_or_ge 6 w.heap.size with h0 | h0
    · exact h0
    · simp [World.cell?, Array.getElem?_eq_none h0] at hg
  have hg2 : ((w.alloc (.cells #[.pointer (some t)] 184)).alloc (.cells #[.pointer (some ⟨7, 184, none⟩), .pointer (some ⟨w.heap.size, 0, none⟩), .int .u64 150] 202)).cell? ⟨6, 0, none⟩ = some (.iface 216 (.agg #[.pointer (some ⟨7, 127, none⟩)])) := by
    rw [World.cell?_alloc_lt _ _ ⟨6, 0, none⟩ (Nat.lt_of_lt_of_le hlt (by simp)), World.cell?_alloc_lt _ _ ⟨6, 0, none⟩ hlt]; exact hg
  have htl : t.block < w.heap.size := by
    rcases Nat.lt_or_ge t.block w.heap.size with h | h
    · exact h
    · simp [World.cell?, Array.getElem?_eq_none h] at ht0
  have el := Tryz.asElemV ⟨w.heap.size, 0, none⟩ t (((w.alloc (.cells #[.pointer (some t)] 184)).alloc (.cells #[.pointer (some ⟨7, 184, none⟩), .pointer (some ⟨w.heap.size, 0, none⟩), .int .u64 150] 202)).alloc (.cells #[.pointer (some ⟨7, 184, none⟩), .pointer (some ⟨w.heap.size, 0, none⟩), .int .u64 150] 202)) (by rw [World.cell?_alloc_lt _ _ ⟨w.heap.size, 0, none⟩ (by simp; omega)]; simp)
  have st := Tryz.asSetS t ⟨w.heap.size + 1 + 1 + 1, 0, none⟩ s old ((((w.alloc (.cells #[.pointer (some t)] 184)).alloc (.cells #[.pointer (some ⟨7, 184, none⟩), .pointer (some ⟨w.heap.size, 0, none⟩), .int .u64 150] 202)).alloc (.cells #[.pointer (some ⟨7, 184, none⟩), .pointer (some ⟨w.heap.size, 0, none⟩), .int .u64 150] 202)).alloc (.cells #[.string s] 182))
    (by rw [World.cell?_alloc_at _ _ _ _ (by simp)]; rfl)
    (by rw [World.cell?_alloc_lt _ _ t (by simp; omega), World.cell?_alloc_lt _ _ t (by simp; omega), World.cell?_alloc_lt _ _ t (by simp; omega), World.cell?_alloc_lt _ _ t htl]; exact ht0)
    (by rw [World.frozen?_alloc_old _ _ t (by simp; omega), World.frozen?_alloc_old _ _ t (by simp; omega), World.frozen?_alloc_old _ _ t (by simp; omega), World.frozen?_alloc_old _ _ t (Nat.ne_of_lt htl)]; exact hf0)
  go_enter Tryz.func147, Tryz.ntmps147
  go_wp2
  refine wp_loop_rounds 1 ?_
  rw [rounds_succ]
  go_wp2
  go_ret
  exact ⟨rfl, rfl⟩

theorem isNo_nil (w : World) : Calls Tryz.prog 128 #[.nilIface] w fun e w' => e = .returned (.bool false) ∧ Below w.heap.size w w' := by
  go_enter Tryz.func128, Tryz.ntmps128
  go_wp2_with fail
  refine (as_nil _ _).mono ?_
  rintro e w' ⟨rfl, rfl⟩
  go_wp2
  go_ret
  exact ⟨rfl, (Below.refl _ _).alloc (Nat.le_refl _) _⟩

set_option maxHeartbeats 1000000 in
theorem isNo_hit (s : ByteArray) (w : World) (hg : ErrT w) : Calls Tryz.prog 128 #[.iface 182 (.agg #[.string s])] w fun e w' => e = .returned (.bool true) ∧ Below w.heap.size w w' := by
  have hgA : ErrT (w.alloc (.cells #[.string ⟨#[]⟩] 182)) := hg.keep ((Below.refl _ _).alloc (Nat.le_refl _) _)
  go_enter Tryz.func128, Tryz.ntmps128
  go_wp2_with fail
  refine (as_hit s ⟨w.heap.size, 0, none⟩ (.string ⟨#[]⟩) _ hgA (by simp) (by simp)).mono ?_
  rintro e w' ⟨rfl, rfl⟩
  go_wp2
  go_ret
  refine ⟨rfl, ?_⟩
  exact (((((Below.refl _ _).alloc (Nat.le_refl _) _).alloc (by simp) _).alloc (by simp; omega) _).alloc (by simp; omega) _).alloc (by simp; omega) _
end Go.Proofs.YtajcffchopcamaaGreatDoor

/- When an object is right; the walks of impl.partsOk, impl.checkObj and impl.ObjOk. -/
namespace Go.Proofs.YtajcffchopcamaaGreatDoor
open Go.RowKit

def partsB (l : List Int) (least most : Int) : Bool := decide (l.length ≤ 5) && l.all (fun z => inB z least most)
theorem partsB_at {l : List Int} {least most : Int} (j : Nat) (hj : j < l.length) (h : inB (l.getD j 0) least most = false) : partsB l least most = false := by
  have : (l.all (fun z => inB z least most)) = false := by
    rw [List.all_eq_false]
    exact ⟨l.getD j 0, by simp [List.getD, hj], by rw [h]; decide⟩
  simp [partsB, this]
theorem partsB_all {l : List Int} {least most : Int} (h : ∀ j, j < l.length → inB (l.getD j 0) least most = true) : partsB l least most = decide (l.length ≤ 5) := by
  have : (l.all (fun z => inB z least most)) = true := by
    rw [List.all_eq_true]
    intro z hz
    obtain ⟨j, hj, rfl⟩ := List.getElem_of_mem hz
    have := h j hj
    simpa [List.getD, hj] using this
  simp [partsB, this]
theorem okB_parts (o : ObjV) : okB o = (inB o.kind 1 99 && (partsB o.ints (-1000000) 1000000 && partsB o.refs 0 31)) := by
  unfold okB partsB
  cases inB o.kind 1 99 <;> cases decide (o.ints.length ≤ 5) <;> cases decide (o.refs.length ≤ 5) <;> cases o.ints.all (fun z => inB z (-1000000) 1000000) <;> simp

theorem inB_false {x l m : Int} (h : inB x l m = false) : x < l ∨ (¬ x < l ∧ m < x) := by simp [inB] at h; omega
theorem inB_true {x l m : Int} (h : inB x l m = true) : ¬ x < l ∧ ¬ m < x := by simp [inB] at h; omega

/-- What checkObj answers of what is right, and of what is not. -/
def IsErr (ok : Bool) (e : Ending) : Prop := (ok = true ∧ e = .returned .nilIface) ∨ (ok = false ∧ ∃ s, e = .returned (.iface 182 (.agg #[.string s])))
theorem isErr_ok {ok : Bool} (h : ok = true) : IsErr ok (.returned .nilIface) := .inl ⟨h, rfl⟩
theorem isErr_no {ok : Bool} (h : ok = false) (s : ByteArray) : IsErr ok (.returned (.iface 182 (.agg #[.string s]))) := .inr ⟨h, s, rfl⟩

set_option maxHeartbeats 400000 in
theorem partsOk_any (a : Option Addr) (c : Nat) (l : List Int) (least most : Int) (w : World) (hr : ReadsI w a l) (hl : l.length ≤ 140737488355328) :
    Calls Tryz.prog 148 #[.slice a l.length c, .int .i64 least, .int .i64 most] w fun e w' => e = .returned (.bool (partsB l least most)) ∧ w' = w := by
  go_enter Tryz.func148, Tryz.ntmps148
  go_wp2
  go_loop [11] (fun i => ∃ j : Nat, j ≤ l.length ∧ i = .int .i64 j ∧ Hid (∀ t, t < j → inB (l.getD t 0) least most = true)) (fun i => l.length - (RowKit.intOf i).toNat)
  case atStart => exact ⟨0, by omega, rfl, fun t ht => by omega⟩
  case round =>
    obtain ⟨j, hj, rfl, hall⟩ := hrel
    by_cases hlt : j < l.length
    · rcases hr.cases with rfl | ⟨b, off, rfl, hpos, hcell⟩
      · simp at hlt
      have hc := hcell j hlt
      clear hcell
      cases hz : inB (l.getD j 0) least most with
      | false =>
        have HE : Hid (partsB l least most = false) := partsB_at j hlt hz
        have hz' := inB_false hz
        clear hz
        generalize l.getD j 0 = z at *
        rcases hz' with h1 | ⟨h1, h2⟩
        all_goals
          go_wp2
          go_ret
          exact ⟨ret_bool HE.out.symm, rfl⟩
      | true =>
        have HN : Hid (∀ t, t < j + 1 → inB (l.getD t 0) least most = true) := by
          intro t ht
          by_cases e : t = j
          · rw [e]; exact hz
          · exact hall.out t (by omega)
        obtain ⟨h1, h2⟩ := inB_true hz
        clear hz
        generalize l.getD j 0 = z at *
        go_wp2
        go_round
        case rel => exact ⟨j + 1, by omega, by go_num, HN⟩
        case measure => simp [RowKit.intOf]; omega
    · have HE : Hid (partsB l least most = decide (l.length ≤ 5)) := partsB_all (fun t ht => hall.out t (by omega))
      go_wp2
      go_ret
      exact ⟨ret_bool (by rw [HE.out]; exact decide_eq_decide.2 (by omega)), rfl⟩

set_option maxHeartbeats 1000000 in
set_option maxRecDepth 100000 in
theorem checkObj_any (o : ObjV) (aI : Option Addr) (cI : Nat) (aR : Option Addr) (cR : Nat) (w : World) (hr : ReadsO w aI cI aR cR o) (hnI : o.ints.length ≤ 140737488355328) (hnR : o.refs.length ≤ 140737488355328) :
    Calls Tryz.prog 129 #[.agg #[.int .i64 o.kind, .slice aI o.ints.length cI, .slice aR o.refs.length cR]] w fun e w' => IsErr (okB o) e ∧ Below w.heap.size w w' := by
  have HOK := okB_parts o
  generalize okB o = OK at *
  obtain ⟨k, ints, refs⟩ := o
  obtain ⟨hI, hR, _, _⟩ := hr
  simp only at *
  obtain ⟨W, hW, b0, hbW, hsW⟩ := boxes1 w [.int .i64 k, .slice aI ints.length cI, .slice aR refs.length cR] 39
  have hI' := hI.below hbW
  have hR' := hR.below hbW
  have x0 := b0.cell 0 _ rfl
  have x1 := b0.cell 1 _ rfl
  have x2 := b0.cell 2 _ rfl
  cases hk : inB k 1 99 with
  | false =>
    have HF : Hid (OK = false) := by rw [Hid, HOK, hk, Bool.false_and]
    clear HOK
    have hz' := inB_false hk
    clear hk
    rcases hz' with h1 | ⟨h1, h2⟩
    all_goals
      go_enter Tryz.func129, Tryz.ntmps129
      go_wp2
      go_ret
      exact ⟨isErr_no HF.out _, hW.out ▸ hbW⟩
  | true =>
  rw [hk, Bool.true_and] at HOK
  obtain ⟨h1, h2⟩ := inB_true hk
  clear hk
  cases hp : partsB ints (-1000000) 1000000 with
  | false =>
    have HF : Hid (OK = false) := by rw [Hid, HOK, hp, Bool.false_and]
    clear HOK
    have HP : Hid (_ = _) := hp
    clear hp
    go_enter Tryz.func129, Tryz.ntmps129
    go_wp2_with fail
    rw [hW.out]
    refine (partsOk_any aI cI ints _ _ W hI' hnI).mono ?_
    rintro e w' ⟨rfl, rfl⟩
    rw [HP.out]
    go_wp2
    go_ret
    exact ⟨isErr_no HF.out _, hbW⟩
  | true =>
  rw [hp, Bool.true_and] at HOK
  have HP : Hid (_ = _) := hp
  clear hp
  cases hq : partsB refs 0 31 with
  | false =>
    have HF : Hid (OK = false) := by rw [Hid, HOK, hq]
    clear HOK
    have HQ : Hid (_ = _) := hq
    clear hq
    go_enter Tryz.func129, Tryz.ntmps129
    go_wp2_with fail
    rw [hW.out]
    refine (partsOk_any aI cI ints _ _ W hI' hnI).mono ?_
    rintro e w' ⟨rfl, rfl⟩
    rw [HP.out]
    go_wp2_with fail
    refine (partsOk_any aR cR refs _ _ _ hR' hnR).mono ?_
    rintro e w' ⟨rfl, rfl⟩
    rw [HQ.out]
    go_wp2
    go_ret
    exact ⟨isErr_no HF.out _, hbW⟩
  | true =>
    have HF : Hid (OK = true) := by rw [Hid, HOK, hq]
    clear HOK
    have HQ : Hid (_ = _) := hq
    clear hq
    go_enter Tryz.func129, Tryz.ntmps129
    go_wp2_with fail
    rw [hW.out]
    refine (partsOk_any aI cI ints _ _ W hI' hnI).mono ?_
    rintro e w' ⟨rfl, rfl⟩
    rw [HP.out]
    go_wp2_with fail
    refine (partsOk_any aR cR refs _ _ _ hR' hnR).mono ?_
    rintro e w' ⟨rfl, rfl⟩
    rw [HQ.out]
    go_wp2
    go_ret
    exact ⟨isErr_ok HF.out, hbW⟩

set_option maxHeartbeats 1000000 in
set_option maxRecDepth 100000 in
theorem implObjOk_any (o : ObjV) (aI : Option Addr) (cI : Nat) (aR : Option Addr) (cR : Nat) (w : World) (hg : ErrT w) (hr : ReadsO w aI cI aR cR o) (hnI : o.ints.length ≤ 140737488355328) (hnR : o.refs.length ≤ 140737488355328) :
    Calls Tryz.prog 108 #[.agg #[.int .i64 o.kind, .slice aI o.ints.length cI, .slice aR o.refs.length cR]] w fun e w' => e = .returned (.bool (okB o)) ∧ Below w.heap.size w w' := by
  obtain ⟨W, hW, b0, hbW, hsW⟩ := boxes1 w [.int .i64 o.kind, .slice aI o.ints.length cI, .slice aR o.refs.length cR] 39
  have hr' := hr.below hbW
  have hg' := hg.keep hbW
  have x0 := b0.cell 0 _ rfl
  have x1 := b0.cell 1 _ rfl
  have x2 := b0.cell 2 _ rfl
  go_enter Tryz.func108, Tryz.ntmps108
  go_wp2_with fail
  rw [hW.out]
  refine (checkObj_any o aI cI aR cR W hr' hnI hnR).mono ?_
  rintro e w1 ⟨he, hb1⟩
  have B1 : Below w.heap.size w w1 := hbW.trans (hb1.mono hbW.size)
  rcases he with ⟨hok, rfl⟩ | ⟨hok, s, rfl⟩
  · have HO : Hid (_ = _) := hok
    clear hok
    go_wp2_with fail
    refine (isNo_nil w1).mono ?_
    rintro e w2 ⟨rfl, hb2⟩
    go_wp2
    go_ret
    exact ⟨by rw [HO.out]; rfl, B1.trans (hb2.mono B1.size)⟩
  · have HO : Hid (_ = _) := hok
    clear hok
    go_wp2_with fail
    refine (isNo_hit s w1 (hg'.keep hb1)).mono ?_
    rintro e w2 ⟨rfl, hb2⟩
    go_wp2
    go_ret
    exact ⟨by rw [HO.out]; rfl, B1.trans (hb2.mono B1.size)⟩
end Go.Proofs.YtajcffchopcamaaGreatDoor

/- The walks of impl.slotHas, impl.slotOk and impl.markSlots over either; a slot of a row taken out by its number. -/
namespace Go.Proofs.YtajcffchopcamaaGreatDoor
open Go.RowKit

theorem slotB_same {s : SlotV} (h : s.has = false) : slotB s = sameO s.o noO := by
  obtain ⟨b, k, i, r⟩ := s
  simp only at h
  subst h
  show slotB ⟨false, k, i, r⟩ = (decide (k = (0 : Int)) && (decide (i = ([] : List Int)) && decide (r = ([] : List Int))))
  rw [Bool.eq_iff_iff]
  simp [slotB]

set_option maxHeartbeats 400000 in
set_option maxRecDepth 100000 in
theorem slotOk_any (s : SlotA) (w : World) (hg : ErrT w) (hr : s.reads w) (hl : Fit [s]) :
    Calls Tryz.prog 83 #[.agg s.cells.toArray] w fun e w' => e = .returned (.bool (slotB s.v)) ∧ Below w.heap.size w w' := by
  obtain ⟨h1, h2⟩ := hl s (List.mem_singleton.2 rfl)
  obtain ⟨W, hW, b0, hbW, hsW⟩ := boxes1 w s.cells 41
  have hr' : s.reads W := ReadsO.below hr hbW
  have hg' := hg.keep hbW
  have HT : Hid (s.v.has = true → slotB s.v = okB s.v.o) := fun h => slotB_has h
  have HF : Hid (s.v.has = false → slotB s.v = sameO s.v.o noO) := fun h => slotB_same h
  have hno : ReadsO W none 0 none 0 noO := ⟨fun h => absurd rfl h, fun h => absurd rfl h, fun _ => rfl, fun _ => rfl⟩
  have C1 := implObjOk_any s.v.o s.aI s.cI s.aR s.cR W hg' hr' (by omega) (by omega)
  have C2 := implSameObj_any s.v.o noO s.aI s.cI s.aR s.cR none 0 none 0 W hr' hno (by omega) (by omega) (by simp [noO]) (by simp [noO])
  simp only [noO] at C2
  generalize slotB s.v = R at *
  simp only [SlotA.cells] at *
  cases hh : s.v.has with
  | true =>
    have HE : Hid (_ = _) := HT.out hh
    rw [hh] at hW
    clear hh C2 HT HF
    go_enter Tryz.func83, Tryz.ntmps83
    go_wp2_with fail
    rw [hW.out]
    refine C1.mono ?_
    rintro e w1 ⟨rfl, hb1⟩
    go_wp2
    go_ret
    exact ⟨ret_bool HE.out.symm, hbW.trans (hb1.mono hbW.size)⟩
  | false =>
    have HE : Hid (_ = _) := HF.out hh
    rw [hh] at hW
    clear hh C1 HT HF
    go_enter Tryz.func83, Tryz.ntmps83
    go_wp2_with fail
    rw [hW.out]
    refine C2.mono ?_
    rintro e w1 ⟨rfl, hb1⟩
    go_wp2
    go_ret
    exact ⟨ret_bool HE.out.symm, hbW.trans (hb1.mono hbW.size)⟩

end Go.Proofs.YtajcffchopcamaaGreatDoor
