/- Several texts in one, in their order. -/
import Derived.Test.YtajcffchopcamaaGreatDoorProg
import Derived.Test.YtajcffchopcamaaGreatDoorPFnPathsx2
import Derived.LaidEql
import Derived.Stop.Asserts
import Derived.RowKitTokens
import Derived.Test.YtajcffchopcamaaGreatDoorPFnPathsx7
import Derived.Test.YtajcffchopcamaaGreatDoorPFnPathsx13
import Derived.Test.YtajcffchopcamaaGreatDoorPFnPathsx17
import Derived.Test.YtajcffchopcamaaGreatDoorPFnPathsx16
import Derived.Test.YtajcffchopcamaaGreatDoorPFnPathsx15
/- errors.As at a noObject: the walks of errors.As and of impl.isNoObject. -/
namespace Go.Proofs.YtajcffchopcamaaGreatDoor
open Go.RowKit Go.Extern.Stop Go.Stop Go.Extern

/-- The variable errors.errorType holds the handle of the type error. -/
def ErrT (w : World) : Prop := w.cell? ⟨6, 0, none⟩ = some (.iface 216 (.agg #[.pointer (some ⟨7, 127, none⟩)]))

theorem ErrT.lt {w : World} (h : ErrT w) : 6 < w.heap.size := by
  unfold ErrT at h
  rcases Nat.lt_or_ge 6 w.heap.size with h0 | h0
  · exact h0
  · simp [World.cell?, Array.getElem?_eq_none h0] at h
theorem ErrT.below {w w' : World} {n : Nat} (h : ErrT w) (hb : Below n w w') (hn : 6 < n) : ErrT w' := by
  unfold ErrT at h ⊢
  rw [hb.cell (p := ⟨6, 0, none⟩) hn]
  exact h
theorem ErrT.keep {w w' : World} (h : ErrT w) (hb : Below w.heap.size w w') : ErrT w' := h.below hb h.lt

theorem Tryz.asValueOfP (t : Addr) (w : World) : (ReflectliteValue.unpack (.iface 184 (.pointer (some t)))).run Tryz.prog w
    = .ok (.agg #[.pointer (some ⟨7, 184, none⟩), .pointer (some ⟨w.heap.size, 0, none⟩), .int .u64 150]) (w.alloc (.cells #[.pointer (some t)] 184)) := by kernel_rfl
theorem Tryz.asTypeP (a : Addr) (w : World) : (ReflectliteValue.methodAny (ReflectliteValue.valueError "reflectlite.Value.Type" 0) (fun t _ _ _ => ReflectliteType.toType t) #[.agg #[.pointer (some ⟨7, 184, none⟩), .pointer (some a), .int .u64 150]]).run Tryz.prog w
    = .ok (.iface 216 (.agg #[.pointer (some ⟨7, 184, none⟩)])) w := by kernel_rfl
theorem Tryz.asMethodKind (h : Value) (w : World) : (Go.method 357 216 (.agg #[h]) "Kind").run Tryz.prog w = .ok (179, h) w := by kernel_rfl
theorem Tryz.asKindP (w : World) : ((ReflectliteType.abiMethod fun t => (fun a : Nat => Value.int IntKind.u8 (a : Int)) <$> Rtype.kind t) #[.pointer (some ⟨7, 184, none⟩)]).run Tryz.prog w = .ok (.int .u8 22) w := by kernel_rfl
theorem Tryz.asKindS (w : World) : ((ReflectliteType.abiMethod fun t => (fun a : Nat => Value.int IntKind.u8 (a : Int)) <$> Rtype.kind t) #[.pointer (some ⟨7, 182, none⟩)]).run Tryz.prog w = .ok (.int .u8 25) w := by kernel_rfl

theorem rlm (z : Sem Value) (f : TypeId → Addr → Nat → Nat → Sem Value) (v : Value) :
    ReflectliteValue.method z f #[v] = (do match ← ReflectliteValue.parts v with | none => z | some (t, a, fl) => f t a fl (fl % 32)) := rfl
theorem Tryz.asPartsP (a : Addr) (w : World) : (ReflectliteValue.parts (.agg #[.pointer (some ⟨7, 184, none⟩), .pointer (some a), .int .u64 150])).run Tryz.prog w = .ok (some (184, a, 150)) w := by kernel_rfl
theorem Tryz.asIsNilP (a p : Addr) (W : World) (ha : W.cell? a = some (.pointer (some p))) :
    (ReflectliteValue.method (ReflectliteValue.valueError "reflectlite.Value.IsNil" 0) ReflectliteValue.isNil #[.agg #[.pointer (some ⟨7, 184, none⟩), .pointer (some a), .int .u64 150]]).run Tryz.prog W = .ok (.bool false) W := by
  rw [rlm]
  simp only [Sem.run_bind, Tryz.asPartsP, Result.andThen]
  simp [ReflectliteValue.isNil, loadVar, isAgg, underlying, Tryz.underlying184, ha, Result.andThen]

theorem Tryz.asMethodElem (h : Value) (w : World) : (Go.method 357 216 (.agg #[h]) "Elem").run Tryz.prog w = .ok (193, .agg #[h]) w := by kernel_rfl
theorem Tryz.asMethodImplements (h : Value) (w : World) : (Go.method 357 216 (.agg #[h]) "Implements").run Tryz.prog w = .ok (194, .agg #[h]) w := by kernel_rfl
theorem Tryz.asMethodAssignableTo (h : Value) (w : World) : (Go.method 357 216 (.agg #[h]) "AssignableTo").run Tryz.prog w = .ok (191, .agg #[h]) w := by kernel_rfl
theorem Tryz.asElemP (w : World) : (ReflectliteType.method ReflectliteType.elem #[.agg #[.pointer (some ⟨7, 184, none⟩)]]).run Tryz.prog w = .ok (.iface 216 (.agg #[.pointer (some ⟨7, 182, none⟩)])) w := by kernel_rfl
theorem Tryz.asImplementsS (w : World) : (ReflectliteType.relation "Implements" ReflectliteType.implements_ #[.agg #[.pointer (some ⟨7, 182, none⟩)], .iface 216 (.agg #[.pointer (some ⟨7, 127, none⟩)])]).run Tryz.prog w = .ok (.bool true) w := by kernel_rfl
theorem Tryz.asTypeOfS (v : Value) (w : World) : (ReflectliteType.typeOf #[.iface 182 v]).run Tryz.prog w = .ok (.iface 216 (.agg #[.pointer (some ⟨7, 182, none⟩)])) w := by kernel_rfl
theorem Tryz.asAssignableS (w : World) : (ReflectliteType.relation "AssignableTo" ReflectliteType.assignableTo #[.agg #[.pointer (some ⟨7, 182, none⟩)], .iface 216 (.agg #[.pointer (some ⟨7, 182, none⟩)])]).run Tryz.prog w = .ok (.bool true) w := by kernel_rfl
theorem Tryz.asValueOfS (s : ByteArray) (w : World) : (ReflectliteValue.unpack (.iface 182 (.agg #[.string s]))).run Tryz.prog w
    = .ok (.agg #[.pointer (some ⟨7, 182, none⟩), .pointer (some ⟨w.heap.size, 0, none⟩), .int .u64 153]) (w.alloc (.cells #[.string s] 182)) := by kernel_rfl

theorem Tryz.asElemOfP (w : World) : (Rtype.elem? 184).run Tryz.prog w = .ok (some 182) w := by kernel_rfl
theorem Tryz.asMkS (p : Addr) (w : World) : (ReflectliteValue.mk 182 p ReflectliteValue.flagAddr).run Tryz.prog w = .ok (.agg #[.pointer (some ⟨7, 182, none⟩), .pointer (some p), .int .u64 409]) w := by kernel_rfl
theorem Tryz.asElemV (a p : Addr) (W : World) (ha : W.cell? a = some (.pointer (some p))) :
    (ReflectliteValue.method (ReflectliteValue.valueError "reflectlite.Value.Elem" 0) ReflectliteValue.elem #[.agg #[.pointer (some ⟨7, 184, none⟩), .pointer (some a), .int .u64 150]]).run Tryz.prog W
      = .ok (.agg #[.pointer (some ⟨7, 182, none⟩), .pointer (some p), .int .u64 409]) W := by
  rw [rlm]
  simp only [Sem.run_bind, Tryz.asPartsP, Result.andThen]
  simp [ReflectliteValue.elem, loadVar, isAgg, underlying, Tryz.underlying184, ha, Result.andThen, Tryz.asElemOfP, Tryz.asMkS]
theorem rls (v x : Value) : ReflectliteValue.set #[v, x] = (do
    let (some (dst, a, fl), some (src, b, _)) := (← ReflectliteValue.parts v, ← ReflectliteValue.parts x)
      | unsupported (.noEntry "extern/(internal/reflectlite.Value).Set.zeroValue")
    if fl / ReflectliteValue.flagAddr % 2 == 0 then unsupported (.noEntry "extern/(internal/reflectlite.Value).Set.unaddressable")
    let val ← loadVar src b
    if ← Rtype.directlyAssignable dst src then storeVar dst a val
    else if ← Rtype.implements dst src then
      if (← Rtype.kind src) == 20 then
        match val with
        | .nilIface => unsupported (.noEntry "extern/reflectlite: a nil value of one interface type handed on as a value of another")
        | _ => storeVar dst a val
      else storeVar dst a (.iface src val)
    else panicString ("reflectlite.Set: value of type " ++ (← Rtype.spelt src) ++ " is not assignable to type " ++ (← Rtype.spelt dst))
    pure (.tuple #[])) := rfl
theorem Tryz.asPartsSa (a : Addr) (w : World) : (ReflectliteValue.parts (.agg #[.pointer (some ⟨7, 182, none⟩), .pointer (some a), .int .u64 409])).run Tryz.prog w = .ok (some (182, a, 409)) w := by kernel_rfl
theorem Tryz.asPartsS (a : Addr) (w : World) : (ReflectliteValue.parts (.agg #[.pointer (some ⟨7, 182, none⟩), .pointer (some a), .int .u64 153])).run Tryz.prog w = .ok (some (182, a, 153)) w := by kernel_rfl
theorem Tryz.asDirectS (w : World) : (Rtype.directlyAssignable 182 182).run Tryz.prog w = .ok true w := by kernel_rfl
theorem Tryz.asSetS (ta b : Addr) (s : ByteArray) (old : Value) (W : World) (hb : W.cell? b = some (.string s)) (ht : W.cell? ta = some old) (hf : W.frozen? ta = false) :
    (ReflectliteValue.set #[.agg #[.pointer (some ⟨7, 182, none⟩), .pointer (some ta), .int .u64 409], .agg #[.pointer (some ⟨7, 182, none⟩), .pointer (some b), .int .u64 153]]).run Tryz.prog W
      = .ok (.tuple #[]) (W.setCell ta (.string s)) := by
  rw [rls]
  simp only [Sem.run_bind, Tryz.asPartsSa, Tryz.asPartsS, Result.andThen]
  simp [ReflectliteValue.flagAddr, loadVar, loadCells, loadCellsFrom, hb, Result.andThen, Tryz.asDirectS, storeVar, Value.cells, storeCells, Addr.add]
  rw [run_store Tryz.prog W ta _ _ (by rfl)]
  simp [ht, hf]

/-- errors.As(nil, target). -/
theorem as_nil (t : Value) (w : World) : Calls Tryz.prog 147 #[.nilIface, t] w fun e w' => e = .returned (.bool false) ∧ w' = w := by
  go_enter Tryz.func147, Tryz.ntmps147
  go_wp2
  go_ret
  exact ⟨rfl, rfl⟩

set_option maxHeartbeats 4000000 in
theorem as_hit (s : ByteArray) (t : Addr) (old : Value) (w : World) (hg : w.cell? ⟨6, 0, none⟩ = some (.iface 216 (.agg #[.pointer (some ⟨7, 127, none⟩)]))) (ht0 : w.cell? t = some old) (hf0 : w.frozen? t = false) :
    Calls Tryz.prog 147 #[.iface 182 (.agg #[.string s]), .iface 184 (.pointer (some t))] w fun ev w' => ev = .returned (.bool true) ∧ w' = ((((w.alloc (.cells #[.pointer (some t)] 184)).alloc (.cells #[.pointer (some ⟨7, 184, none⟩), .pointer (some ⟨w.heap.size, 0, none⟩), .int .u64 150] 202)).alloc (.cells #[.pointer (some ⟨7, 184, none⟩), .pointer (some ⟨w.heap.size, 0, none⟩), .int .u64 150] 202)).alloc (.cells #[.string s] 182)).setCell t (.string s) := by
  have h6 := @run_callFunc_extern Tryz.prog 157 _ (fun args => ReflectliteValue.unpack (args.getD 0 (.tuple #[]))) Tryz.func157 (by kernel_rfl) (by kernel_rfl) (by kernel_rfl) (by kernel_rfl)
  have h7 := @run_callFunc_extern Tryz.prog 158 _ (ReflectliteValue.methodAny (ReflectliteValue.valueError "reflectlite.Value.Type" 0) (fun t _ _ _ => ReflectliteType.toType t)) Tryz.func158 (by kernel_rfl) (by kernel_rfl) (by kernel_rfl) (by kernel_rfl)
  have h8 := @run_callFunc_extern Tryz.prog 159 _ (ReflectliteValue.method (ReflectliteValue.valueError "reflectlite.Value.IsNil" 0) ReflectliteValue.isNil) Tryz.func159 (by kernel_rfl) (by kernel_rfl) (by kernel_rfl) (by kernel_rfl)
  have h27 := @run_callFunc_extern Tryz.prog 179 _ (ReflectliteType.abiMethod fun t => do pure (.int .u8 (← Rtype.kind t))) Tryz.func179 (by kernel_rfl) (by kernel_rfl) (by kernel_rfl) (by kernel_rfl)
  have h37 := @run_callFunc_extern Tryz.prog 193 _ (ReflectliteType.method ReflectliteType.elem) Tryz.func193 (by kernel_rfl) (by kernel_rfl) (by kernel_rfl) (by kernel_rfl)
  have h38 := @run_callFunc_extern Tryz.prog 194 _ (ReflectliteType.relation "Implements" ReflectliteType.implements_) Tryz.func194 (by kernel_rfl) (by kernel_rfl) (by kernel_rfl) (by kernel_rfl)
  have h10 := @run_callFunc_extern Tryz.prog 162 _ ReflectliteType.typeOf Tryz.func162 (by kernel_rfl) (by kernel_rfl) (by kernel_rfl) (by kernel_rfl)
  have h35 := @run_callFunc_extern Tryz.prog 191 _ (ReflectliteType.relation "AssignableTo" ReflectliteType.assignableTo) Tryz.func191 (by kernel_rfl) (by kernel_rfl) (by kernel_rfl) (by kernel_rfl)
  have h11 := @run_callFunc_extern Tryz.prog 163 _ (ReflectliteValue.method (ReflectliteValue.valueError "reflectlite.Value.Elem" 0) ReflectliteValue.elem) Tryz.func163 (by kernel_rfl) (by kernel_rfl) (by kernel_rfl) (by kernel_rfl)
  have h12 := @run_callFunc_extern Tryz.prog 164 _ ReflectliteValue.set Tryz.func164 (by kernel_rfl) (by kernel_rfl) (by kernel_rfl) (by kernel_rfl)
  have tO := Tryz.asTypeOfS
  have mA := Tryz.asMethodAssignableTo
  have a25 := Tryz.asAssignableS
  have v25 := Tryz.asValueOfS
  have f6 := Tryz.asValueOfP
  have f7 := Tryz.asTypeP
  have mK := Tryz.asMethodKind
  have mE := Tryz.asMethodElem
  have mI := Tryz.asMethodImplements
  have k27 := Tryz.asKindP
  have k25 := Tryz.asKindS
  have e27 := Tryz.asElemP
  have i25 := Tryz.asImplementsS
  have n8 := Tryz.asIsNilP ⟨w.heap.size, 0, none⟩ t ((w.alloc (.cells #[.pointer (some t)] 184)).alloc (.cells #[.pointer (some ⟨7, 184, none⟩), .pointer (some ⟨w.heap.size, 0, none⟩), .int .u64 150] 202)) (by simp)
  have hlt : 6 < w.heap.size := by
    rcases Nat.lt_or_ge 6 w.heap.size with h0 | h0
    · exact h0
    · simp [World.cell?, Array.getElem?_eq_none h0] at hg
  have hg2 : ((w.alloc (.cells #[.pointer (some t)] 184)).alloc (.cells #[.pointer (some ⟨7, 184, none⟩), .pointer (some ⟨w.heap.size, 0, none⟩), .int .u64 150] 202)).cell? ⟨6, 0, none⟩ = some (.iface 216 (.agg #[.pointer (some ⟨7, 127, none⟩)])) := by
    rw [World.cell?_alloc_lt _ _ ⟨6, 0, none⟩ (Nat.lt_of_lt_of_le hlt (by simp)), World.cell?_alloc_lt _ _ ⟨6, 0, none⟩ hlt]; exact hg
  have htl : t.block < w.heap.size := by
    rcases Nat.lt_or_ge t.block w.heap.size with h | h
    · exact h
    · simp [World.cell?, Array.getElem?_eq_none h] at ht0
  have el := Tryz.asElemV ⟨w.heap.size, 0, none⟩ t (((w.alloc (.cells #[.pointer (some t)] 184)).alloc (.cells #[.pointer (some ⟨7, 184, none⟩), .pointer (some ⟨w.heap.size, 0, none⟩), .int .u64 150] 202)).alloc (.cells #[.pointer (some ⟨7, 184, none⟩), .pointer (some ⟨w.heap.size, 0, none⟩), .int .u64 150] 202)) (by rw [World.cell?_alloc_lt _ _ ⟨w.heap.size, 0, none⟩ (by simp; omega)]; simp)
  have st := Tryz.asSetS t ⟨w.heap.size + 1 + 1 + 1, 0, none⟩ s old ((((w.alloc (.cells #[.pointer (some t)] 184)).alloc (.cells #[.pointer (some ⟨7, 184, none⟩), .pointer (some ⟨w.heap.size, 0, none⟩), .int .u64 150] 202)).alloc (.cells #[.pointer (some ⟨7, 184, none⟩), .pointer (some ⟨w.heap.size, 0, none⟩), .int .u64 150] 202)).alloc (.cells #[.string s] 182))
    (by rw [World.cell?_alloc_at _ _ _ _ (by simp)]; rfl)
    (by rw [World.cell?_alloc_lt _ _ t (by simp; omega), World.cell?_alloc_lt _ _ t (by simp; omega), World.cell?_alloc_lt _ _ t (by simp; omega), World.cell?_alloc_lt _ _ t htl]; exact ht0)
    (by rw [World.frozen?_alloc_old _ _ t (by simp; omega), World.frozen?_alloc_old _ _ t (by simp; omega), World.frozen?_alloc_old _ _ t (by simp; omega), World.frozen?_alloc_old _ _ t (Nat.ne_of_lt htl)]; exact hf0)
  go_enter Tryz.func147, Tryz.ntmps147
  go_wp2
  refine wp_loop_rounds 1 ?_
  rw [rounds_succ]
  go_wp2
  go_ret
  exact ⟨rfl, rfl⟩

theorem isNo_nil (w : World) : Calls Tryz.prog 128 #[.nilIface] w fun e w' => e = .returned (.bool false) ∧ Below w.heap.size w w' := by
  go_enter Tryz.func128, Tryz.ntmps128
  go_wp2_with fail
  refine (as_nil _ _).mono ?_
  rintro e w' ⟨rfl, rfl⟩
  go_wp2
  go_ret
  exact ⟨rfl, (Below.refl _ _).alloc (Nat.le_refl _) _⟩

set_option maxHeartbeats 1000000 in
theorem isNo_hit (s : ByteArray) (w : World) (hg : ErrT w) : Calls Tryz.prog 128 #[.iface 182 (.agg #[.string s])] w fun e w' => e = .returned (.bool true) ∧ Below w.heap.size w w' := by
  have hgA : ErrT (w.alloc (.cells #[.string ⟨#[]⟩] 182)) := hg.keep ((Below.refl _ _).alloc (Nat.le_refl _) _)
  go_enter Tryz.func128, Tryz.ntmps128
  go_wp2_with fail
  refine (as_hit s ⟨w.heap.size, 0, none⟩ (.string ⟨#[]⟩) _ hgA (by simp) (by simp)).mono ?_
  rintro e w' ⟨rfl, rfl⟩
  go_wp2
  go_ret
  refine ⟨rfl, ?_⟩
  exact (((((Below.refl _ _).alloc (Nat.le_refl _) _).alloc (by simp) _).alloc (by simp; omega) _).alloc (by simp; omega) _).alloc (by simp; omega) _
end Go.Proofs.YtajcffchopcamaaGreatDoor

/- When an object is right; the walks of impl.partsOk, impl.checkObj and impl.ObjOk. -/
namespace Go.Proofs.YtajcffchopcamaaGreatDoor
open Go.RowKit

def partsB (l : List Int) (least most : Int) : Bool := decide (l.length ≤ 5) && l.all (fun z => inB z least most)
theorem partsB_at {l : List Int} {least most : Int} (j : Nat) (hj : j < l.length) (h : inB (l.getD j 0) least most = false) : partsB l least most = false := by
  have : (l.all (fun z => inB z least most)) = false := by
    rw [List.all_eq_false]
    exact ⟨l.getD j 0, by simp [List.getD, hj], by rw [h]; decide⟩
  simp [partsB, this]
theorem partsB_all {l : List Int} {least most : Int} (h : ∀ j, j < l.length → inB (l.getD j 0) least most = true) : partsB l least most = decide (l.length ≤ 5) := by
  have : (l.all (fun z => inB z least most)) = true := by
    rw [List.all_eq_true]
    intro z hz
    obtain ⟨j, hj, rfl⟩ := List.getElem_of_mem hz
    have := h j hj
    simpa [List.getD, hj] using this
  simp [partsB, this]
theorem okB_parts (o : ObjV) : okB o = (inB o.kind 1 99 && (partsB o.ints (-1000000) 1000000 && partsB o.refs 0 31)) := by
  unfold okB partsB
  cases inB o.kind 1 99 <;> cases decide (o.ints.length ≤ 5) <;> cases decide (o.refs.length ≤ 5) <;> cases o.ints.all (fun z => inB z (-1000000) 1000000) <;> simp

theorem inB_false {x l m : Int} (h : inB x l m = false) : x < l ∨ (¬ x < l ∧ m < x) := by simp [inB] at h; omega
theorem inB_true {x l m : Int} (h : inB x l m = true) : ¬ x < l ∧ ¬ m < x := by simp [inB] at h; omega

/-- What checkObj answers of what is right, and of what is not. -/
def IsErr (ok : Bool) (e : Ending) : Prop := (ok = true ∧ e = .returned .nilIface) ∨ (ok = false ∧ ∃ s, e = .returned (.iface 182 (.agg #[.string s])))
theorem isErr_ok {ok : Bool} (h : ok = true) : IsErr ok (.returned .nilIface) := .inl ⟨h, rfl⟩
theorem isErr_no {ok : Bool} (h : ok = false) (s : ByteArray) : IsErr ok (.returned (.iface 182 (.agg #[.string s]))) := .inr ⟨h, s, rfl⟩

set_option maxHeartbeats 400000 in
theorem partsOk_any (a : Option Addr) (c : Nat) (l : List Int) (least most : Int) (w : World) (hr : ReadsI w a l) (hl : l.length ≤ 140737488355328) :
    Calls Tryz.prog 148 #[.slice a l.length c, .int .i64 least, .int .i64 most] w fun e w' => e = .returned (.bool (partsB l least most)) ∧ w' = w := by
  go_enter Tryz.func148, Tryz.ntmps148
  go_wp2
  go_loop [11] (fun i => ∃ j : Nat, j ≤ l.length ∧ i = .int .i64 j ∧ Hid (∀ t, t < j → inB (l.getD t 0) least most = true)) (fun i => l.length - (RowKit.intOf i).toNat)
  case atStart => exact ⟨0, by omega, rfl, fun t ht => by omega⟩
  case round =>
    obtain ⟨j, hj, rfl, hall⟩ := hrel
    by_cases hlt : j < l.length
    · rcases hr.cases with rfl | ⟨b, off, rfl, hpos, hcell⟩
      · simp at hlt
      have hc := hcell j hlt
      clear hcell
      cases hz : inB (l.getD j 0) least most with
      | false =>
        have HE : Hid (partsB l least most = false) := partsB_at j hlt hz
        have hz' := inB_false hz
        clear hz
        generalize l.getD j 0 = z at *
        rcases hz' with h1 | ⟨h1, h2⟩
        all_goals
          go_wp2
          go_ret
          exact ⟨ret_bool HE.out.symm, rfl⟩
      | true =>
        have HN : Hid (∀ t, t < j + 1 → inB (l.getD t 0) least most = true) := by
          intro t ht
          by_cases e : t = j
          · rw [e]; exact hz
          · exact hall.out t (by omega)
        obtain ⟨h1, h2⟩ := inB_true hz
        clear hz
        generalize l.getD j 0 = z at *
        go_wp2
        go_round
        case rel => exact ⟨j + 1, by omega, by go_num, HN⟩
        case measure => simp [RowKit.intOf]; omega
    · have HE : Hid (partsB l least most = decide (l.length ≤ 5)) := partsB_all (fun t ht => hall.out t (by omega))
      go_wp2
      go_ret
      exact ⟨ret_bool (by rw [HE.out]; exact decide_eq_decide.2 (by omega)), rfl⟩

set_option maxHeartbeats 1000000 in
set_option maxRecDepth 100000 in
theorem checkObj_any (o : ObjV) (aI : Option Addr) (cI : Nat) (aR : Option Addr) (cR : Nat) (w : World) (hr : ReadsO w aI cI aR cR o) (hnI : o.ints.length ≤ 140737488355328) (hnR : o.refs.length ≤ 140737488355328) :
    Calls Tryz.prog 129 #[.agg #[.int .i64 o.kind, .slice aI o.ints.length cI, .slice aR o.refs.length cR]] w fun e w' => IsErr (okB o) e ∧ Below w.heap.size w w' := by
  have HOK := okB_parts o
  generalize okB o = OK at *
  obtain ⟨k, ints, refs⟩ := o
  obtain ⟨hI, hR, _, _⟩ := hr
  simp only at *
  obtain ⟨W, hW, b0, hbW, hsW⟩ := boxes1 w [.int .i64 k, .slice aI ints.length cI, .slice aR refs.length cR] 39
  have hI' := hI.below hbW
  have hR' := hR.below hbW
  have x0 := b0.cell 0 _ rfl
  have x1 := b0.cell 1 _ rfl
  have x2 := b0.cell 2 _ rfl
  cases hk : inB k 1 99 with
  | false =>
    have HF : Hid (OK = false) := by rw [Hid, HOK, hk, Bool.false_and]
    clear HOK
    have hz' := inB_false hk
    clear hk
    rcases hz' with h1 | ⟨h1, h2⟩
    all_goals
      go_enter Tryz.func129, Tryz.ntmps129
      go_wp2
      go_ret
      exact ⟨isErr_no HF.out _, hW.out ▸ hbW⟩
  | true =>
  rw [hk, Bool.true_and] at HOK
  obtain ⟨h1, h2⟩ := inB_true hk
  clear hk
  cases hp : partsB ints (-1000000) 1000000 with
  | false =>
    have HF : Hid (OK = false) := by rw [Hid, HOK, hp, Bool.false_and]
    clear HOK
    have HP : Hid (_ = _) := hp
    clear hp
    go_enter Tryz.func129, Tryz.ntmps129
    go_wp2_with fail
    rw [hW.out]
    refine (partsOk_any aI cI ints _ _ W hI' hnI).mono ?_
    rintro e w' ⟨rfl, rfl⟩
    rw [HP.out]
    go_wp2
    go_ret
    exact ⟨isErr_no HF.out _, hbW⟩
  | true =>
  rw [hp, Bool.true_and] at HOK
  have HP : Hid (_ = _) := hp
  clear hp
  cases hq : partsB refs 0 31 with
  | false =>
    have HF : Hid (OK = false) := by rw [Hid, HOK, hq]
    clear HOK
    have HQ : Hid (_ = _) := hq
    clear hq
    go_enter Tryz.func129, Tryz.ntmps129
    go_wp2_with fail
    rw [hW.out]
    refine (partsOk_any aI cI ints _ _ W hI' hnI).mono ?_
    rintro e w' ⟨rfl, rfl⟩
    rw [HP.out]
    go_wp2_with fail
    refine (partsOk_any aR cR refs _ _ _ hR' hnR).mono ?_
    rintro e w' ⟨rfl, rfl⟩
    rw [HQ.out]
    go_wp2
    go_ret
    exact ⟨isErr_no HF.out _, hbW⟩
  | true =>
    have HF : Hid (OK = true) := by rw [Hid, HOK, hq]
    clear HOK
    have HQ : Hid (_ = _) := hq
    clear hq
    go_enter Tryz.func129, Tryz.ntmps129
    go_wp2_with fail
    rw [hW.out]
    refine (partsOk_any aI cI ints _ _ W hI' hnI).mono ?_
    rintro e w' ⟨rfl, rfl⟩
    rw [HP.out]
    go_wp2_with fail
    refine (partsOk_any aR cR refs _ _ _ hR' hnR).mono ?_
    rintro e w' ⟨rfl, rfl⟩
    rw [HQ.out]
    go_wp2
    go_ret
    exact ⟨isErr_ok HF.out, hbW⟩

set_option maxHeartbeats 1000000 in
set_option maxRecDepth 100000 in
theorem implObjOk_any (o : ObjV) (aI : Option Addr) (cI : Nat) (aR : Option Addr) (cR : Nat) (w : World) (hg : ErrT w) (hr : ReadsO w aI cI aR cR o) (hnI : o.ints.length ≤ 140737488355328) (hnR : o.refs.length ≤ 140737488355328) :
    Calls Tryz.prog 108 #[.agg #[.int .i64 o.kind, .slice aI o.ints.length cI, .slice aR o.refs.length cR]] w fun e w' => e = .returned (.bool (okB o)) ∧ Below w.heap.size w w' := by
  obtain ⟨W, hW, b0, hbW, hsW⟩ := boxes1 w [.int .i64 o.kind, .slice aI o.ints.length cI, .slice aR o.refs.length cR] 39
  have hr' := hr.below hbW
  have hg' := hg.keep hbW
  have x0 := b0.cell 0 _ rfl
  have x1 := b0.cell 1 _ rfl
  have x2 := b0.cell 2 _ rfl
  go_enter Tryz.func108, Tryz.ntmps108
  go_wp2_with fail
  rw [hW.out]
  refine (checkObj_any o aI cI aR cR W hr' hnI hnR).mono ?_
  rintro e w1 ⟨he, hb1⟩
  have B1 : Below w.heap.size w w1 := hbW.trans (hb1.mono hbW.size)
  rcases he with ⟨hok, rfl⟩ | ⟨hok, s, rfl⟩
  · have HO : Hid (_ = _) := hok
    clear hok
    go_wp2_with fail
    refine (isNo_nil w1).mono ?_
    rintro e w2 ⟨rfl, hb2⟩
    go_wp2
    go_ret
    exact ⟨by rw [HO.out]; rfl, B1.trans (hb2.mono B1.size)⟩
  · have HO : Hid (_ = _) := hok
    clear hok
    go_wp2_with fail
    refine (isNo_hit s w1 (hg'.keep hb1)).mono ?_
    rintro e w2 ⟨rfl, hb2⟩
    go_wp2
    go_ret
    exact ⟨by rw [HO.out]; rfl, B1.trans (hb2.mono B1.size)⟩
end Go.Proofs.YtajcffchopcamaaGreatDoor

/- The walks of impl.slotHas, impl.slotOk and impl.markSlots over either; a slot of a row taken out by its number. -/
namespace Go.Proofs.YtajcffchopcamaaGreatDoor
open Go.RowKit

theorem slotB_same {s : SlotV} (h : s.has = false) : slotB s = sameO s.o noO := by
  obtain ⟨b, k, i, r⟩ := s
  simp only at h
  subst h
  show slotB ⟨false, k, i, r⟩ = (decide (k = (0 : Int)) && (decide (i = ([] : List Int)) && decide (r = ([] : List Int))))
  rw [Bool.eq_iff_iff]
  simp [slotB]

set_option maxHeartbeats 400000 in
set_option maxRecDepth 100000 in
theorem slotOk_any (s : SlotA) (w : World) (hg : ErrT w) (hr : s.reads w) (hl : Fit [s]) :
    Calls Tryz.prog 83 #[.agg s.cells.toArray] w fun e w' => e = .returned (.bool (slotB s.v)) ∧ Below w.heap.size w w' := by
  obtain ⟨h1, h2⟩ := hl s (List.mem_singleton.2 rfl)
  obtain ⟨W, hW, b0, hbW, hsW⟩ := boxes1 w s.cells 41
  have hr' : s.reads W := ReadsO.below hr hbW
  have hg' := hg.keep hbW
  have HT : Hid (s.v.has = true → slotB s.v = okB s.v.o) := fun h => slotB_has h
  have HF : Hid (s.v.has = false → slotB s.v = sameO s.v.o noO) := fun h => slotB_same h
  have hno : ReadsO W none 0 none 0 noO := ⟨fun h => absurd rfl h, fun h => absurd rfl h, fun _ => rfl, fun _ => rfl⟩
  have C1 := implObjOk_any s.v.o s.aI s.cI s.aR s.cR W hg' hr' (by omega) (by omega)
  have C2 := implSameObj_any s.v.o noO s.aI s.cI s.aR s.cR none 0 none 0 W hr' hno (by omega) (by omega) (by simp [noO]) (by simp [noO])
  simp only [noO] at C2
  generalize slotB s.v = R at *
  simp only [SlotA.cells] at *
  cases hh : s.v.has with
  | true =>
    have HE : Hid (_ = _) := HT.out hh
    rw [hh] at hW
    clear hh C2 HT HF
    go_enter Tryz.func83, Tryz.ntmps83
    go_wp2_with fail
    rw [hW.out]
    refine C1.mono ?_
    rintro e w1 ⟨rfl, hb1⟩
    go_wp2
    go_ret
    exact ⟨ret_bool HE.out.symm, hbW.trans (hb1.mono hbW.size)⟩
  | false =>
    have HE : Hid (_ = _) := HF.out hh
    rw [hh] at hW
    clear hh C1 HT HF
    go_enter Tryz.func83, Tryz.ntmps83
    go_wp2_with fail
    rw [hW.out]
    refine C2.mono ?_
    rintro e w1 ⟨rfl, hb1⟩
    go_wp2
    go_ret
    exact ⟨ret_bool HE.out.symm, hbW.trans (hb1.mono hbW.size)⟩

end Go.Proofs.YtajcffchopcamaaGreatDoor

/- The walks of impl.allSlotsOk, ViewOk. -/
namespace Go.Proofs.YtajcffchopcamaaGreatDoor
open Go.RowKit

set_option maxHeartbeats 1000000 in
set_option maxRecDepth 100000 in
theorem allSlotsOk_any (a : Option Addr) (c : Nat) (ss : List SlotA) (w : World) (hg : ErrT w) (hr : ReadsVw w a ss) (hl : ss.length ≤ 1099511627776) (hf : Fit ss) :
    Calls Tryz.prog 58 #[.slice a ss.length c] w fun e w' => e = .returned (.bool ((vsOf ss).all slotB)) ∧ Below w.heap.size w w' := by
  have HC : Hid (∀ u, Below w.heap.size w u → ∀ k, k < ss.length → ∃ b off, a = some ⟨b, off, none⟩ ∧ u.rangeAt b (off + k * 4) (ss.getD k zeroS).cells ∧ (ss.getD k zeroS).reads u ∧ Fit [ss.getD k zeroS] ∧ ErrT u) := fun u hu k hk => by
    obtain ⟨b, off, ha, hc⟩ := (hr.below hu) (by intro e; rw [e] at hk; simp at hk)
    exact ⟨b, off, ha, (hc k hk).1, (hc k hk).2, hf.one hk, hg.keep hu⟩
  have HL := vsOf_len ss
  have HHIT : Hid (∀ k, k < ss.length → slotB (ss.getD k zeroS).v = false → (vsOf ss).all slotB = false) := fun k hk h => all_hit (z := noS) (k := k) (by omega) (by rw [vsOf_at]; exact h)
  have HSTEP : Hid (∀ k, k < ss.length → ((vsOf ss).take k).all slotB = true → slotB (ss.getD k zeroS).v = true → ((vsOf ss).take (k + 1)).all slotB = true) := fun k hk h h1 => all_step (z := noS) (by omega) h (by rw [vsOf_at]; exact h1)
  have HEND : Hid (∀ k, ¬ k < ss.length → ((vsOf ss).take k).all slotB = true → (vsOf ss).all slotB = true) := fun k hk h => all_end (by omega) h
  clear hr hf HL hg
  generalize (vsOf ss).all slotB = R at *
  generalize vsOf ss = L at *
  go_enter Tryz.func58, Tryz.ntmps58
  go_wp2
  go_loopw [7] (fun i wr => ∃ k : Nat, k ≤ ss.length ∧ i = .int .i64 k ∧ Hid ((L.take k).all slotB = true) ∧ Below w.heap.size w wr) (fun i _ => ss.length - (RowKit.intOf i).toNat)
  case atStart => exact ⟨0, Nat.zero_le _, rfl, (show (L.take 0).all slotB = true by simp), Below.refl _ _⟩
  case round =>
    obtain ⟨k, hk, rfl, hall, hbl⟩ := hrel
    by_cases hlt : k < ss.length
    · obtain ⟨b, off, rfl, hra, hrz, hfz, hgz⟩ := HC.out wr hbl k hlt
      have HH1 : Hid (slotB (ss.getD k zeroS).v = false → R = false) := fun h => HHIT.out k hlt h
      have HH2 : Hid (slotB (ss.getD k zeroS).v = true → (L.take (k + 1)).all slotB = true) := fun h => HSTEP.out k hlt hall.out h
      clear HC HHIT HSTEP HEND hall
      generalize ss.getD k zeroS = z at *
      obtain ⟨V, hV, bz, hbV, hsV⟩ := boxes1 wr z.cells 41
      have C := slotOk_any z V (hgz.keep hbV) (ReadsO.below hrz hbV) hfz
      have hB : Below w.heap.size w V := hbl.trans (hbV.mono hbl.size)
      simp only [SlotA.cells] at hV bz hra C
      have c0 := hra 0 _ rfl
      have c1 := hra 1 _ rfl
      have c2 := hra 2 _ rfl
      have c3 := hra 3 _ rfl
      rw [Nat.add_zero] at c0
      obtain ⟨q0, q1, q2, q3, _⟩ := bz.four
      generalize slotB z.v = zb at *
      clear hsV hbV hra hrz hfz hgz bz
      cases zb with
      | false =>
        have HR : Hid (R = false) := HH1.out rfl
        clear HH1 HH2
        go_wp2_with fail
        rw [hV.out]
        go_wp2_with fail
        refine C.mono ?_
        rintro e w1 ⟨rfl, hb1⟩
        go_wp2
        go_ret
        exact ⟨ret_bool HR.out.symm, hB.trans (hb1.mono hB.size)⟩
      | true =>
        have HN : Hid ((L.take (k + 1)).all slotB = true) := HH2.out rfl
        clear HH1 HH2
        go_wp2_with fail
        rw [hV.out]
        go_wp2_with fail
        refine C.mono ?_
        rintro e w1 ⟨rfl, hb1⟩
        have hB1 : Below w.heap.size w w1 := hB.trans (hb1.mono hB.size)
        clear C hV hb1 hB
        go_wp2_with fail
        go_roundw
        case rel => exact ⟨k + 1, by omega, by go_num, HN, hB1⟩
        case measure => simp [RowKit.intOf]; omega
    · have HR : Hid (R = true) := HEND.out k hlt hall.out
      clear HC HHIT HSTEP HEND hall
      go_wp2
      go_ret
      exact ⟨ret_bool HR.out.symm, hbl⟩

set_option maxHeartbeats 1000000 in
set_option maxRecDepth 100000 in
theorem implViewOk_any (a : Option Addr) (c : Nat) (ss : List SlotA) (w : World) (hg : ErrT w) (hr : ReadsVw w a ss) (hl : ss.length ≤ 1099511627776) (hf : Fit ss) :
    Calls Tryz.prog 33 #[.slice a ss.length c] w fun e w' => e = .returned (.bool (viewB (vsOf ss))) ∧ Below w.heap.size w w' := by
  have C := allSlotsOk_any a c ss w hg hr hl hf
  by_cases h32 : ss.length = 32
  · have HV : Hid (viewB (vsOf ss) = (!(ss.getD 0 zeroS).v.has && (vsOf ss).all slotB)) := by
      rw [Hid, viewB_zero (by rw [vsOf_len]; exact h32), vsOf_at]
    obtain ⟨b, off, rfl, hc⟩ := hr (by intro e; rw [e] at h32; simp at h32)
    have hra := (hc 0 (by omega)).1
    rw [Nat.zero_mul, Nat.add_zero] at hra
    generalize viewB (vsOf ss) = R at *
    generalize (vsOf ss).all slotB = B at *
    generalize ss.getD 0 zeroS = z at *
    have c0 : w.cell? ⟨b, off, none⟩ = some (.bool z.v.has) := hra 0 _ rfl
    rw [h32] at C ⊢
    clear hc hra h32 hl hf hr hg
    generalize z.v.has = zb at *
    cases zb with
    | true =>
      have HR : Hid (R = false) := HV.out
      clear HV C
      go_enter Tryz.func33, Tryz.ntmps33
      go_wp2
      go_ret
      exact ⟨ret_bool HR.out.symm, Below.refl _ _⟩
    | false =>
      have HR : Hid (R = B) := HV.out
      clear HV
      go_enter Tryz.func33, Tryz.ntmps33
      go_wp2_with fail
      refine C.mono ?_
      rintro e w1 ⟨rfl, hb1⟩
      go_wp2
      go_ret
      exact ⟨ret_bool HR.out.symm, hb1⟩
  · have HR : Hid (viewB (vsOf ss) = false) := viewB_len (by rw [vsOf_len]; exact h32)
    have hne : ((ss.length : Int) == 32) = false := by rw [beq_eq_false_iff_ne]; omega
    generalize viewB (vsOf ss) = R at *
    clear C hf hr hg
    go_enter Tryz.func33, Tryz.ntmps33
    go_wp2
    go_ret
    exact ⟨ret_bool HR.out.symm, Below.refl _ _⟩
end Go.Proofs.YtajcffchopcamaaGreatDoor

/- The walk of impl.Mark. -/
namespace Go.Proofs.YtajcffchopcamaaGreatDoor
open Go.RowKit

theorem loopM_len {vs : List SlotV} (hv : RngM vs) {most : Nat} (h40 : most ≤ 40) : ∀ (n : Nat) (st : MSt), GoodM most st → st.stack = [] → (loopM vs most n st).met.length = 32 := by
  intro n
  induction n with
  | zero => intro st g _; exact g.len
  | succ n ih =>
    intro st g e
    unfold loopM
    split
    · obtain ⟨_, _, hg⟩ := anewM_good (vs := vs) g
      obtain ⟨g2, e2, _⟩ := drainM_good hv 72 _ hg (hg.size h40)
      exact ih _ g2 e2
    · exact g.len
theorem madeB (n : Nat) : (madeCells (Value.bool false).cells n).toList = (List.replicate n false).map Value.bool := by
  apply List.ext_getElem?
  intro i
  by_cases h : i < n
  · simp [madeCells, h]
    show (#[Value.bool false] : Array Value)[i % 1]! = _
    rw [Nat.mod_one]
    rfl
  · rw [List.getElem?_eq_none (by simp [size_madeCells]; omega), List.getElem?_eq_none (by simp; omega)]

theorem runM_len {vs : List SlotV} (hv : RngM vs) {most : Nat} (h40 : most ≤ 40) {root : Int} (hr : 0 ≤ root ∧ root ≤ 31) : (runM vs most root).met.length = 32 := loopM_len hv h40 65 _ (firstM_good hv h40 hr).1 (firstM_good hv h40 hr).2
/-- What holds while the keys come: the row's marks are those that have come. -/
structure RgI (w : World) (M mb r g : Nat) (cs : List Value) (lo : Nat) (ks dn : List Int) (R : List Bool) (n : Nat) : Prop where
  rng : RangeK w mb r ks dn n
  box : Box w M cs 117
  own : OwnBl w lo w.heap.size (some ⟨g, 0, none⟩) 32 R
  len : R.length = 32
  mks : ∀ i : Nat, i < 32 → (R.getD i false = true ↔ (i : Int) ∈ dn)
  dif : g ≠ M ∧ g ≠ mb ∧ g ≠ r ∧ r ≠ M
theorem RgI.next {w w' : World} {M mb r g : Nat} {cs : List Value} {lo : Nat} {ks dn : List Int} {R : List Bool} {n : Nat} (h : RgI w M mb r g cs lo ks dn R n) (hg : w.grownBy w' (some r)) : Box w' M cs 117 ∧ OwnBl w' lo w'.heap.size (some ⟨g, 0, none⟩) 32 R := by
  obtain ⟨d1, d2, d3, d4⟩ := h.dif
  refine ⟨h.box.block (hg.block M h.box.lt (fun e => d4 (Option.some.inj e).symm)), ownsRow_block h.own.1 (fun k hk => hg.block k (h.own.2.2 k hk) (fun e => ?_)), Nat.le_refl _, fun k hk => Nat.lt_of_lt_of_le (h.own.2.2 k hk) hg.size⟩
  cases hk
  exact d3 (Option.some.inj e)
theorem RgI.mark {w w' W : World} {M mb r g : Nat} {cs : List Value} {lo : Nat} {ks dn : List Int} {R : List Bool} {n m k : Nat} (h : RgI w M mb r g cs lo ks dn R n) (hk : k < 32) (hr : RangeK w' mb r ks ((k : Int) :: dn) m) (hg : w.grownBy w' (some r)) (hW : w'.setCell ⟨g, k, none⟩ (.bool true) = W) : RgI W M mb r g cs lo ks ((k : Int) :: dn) (R.set k true) m ∧ w'.grownBy W (some g) := by
  obtain ⟨d1, d2, d3, d4⟩ := h.dif
  obtain ⟨b1, o1⟩ := h.next hg
  obtain ⟨W', hW', o2, g2, s2⟩ := o1.stored k true
  have e : W' = W := hW'.out.symm.trans hW
  subst e
  have hl := hr.lt
  refine ⟨⟨hr.keep (g2.block mb hl.1 (fun e => d2 (Option.some.inj e).symm)) (g2.block r hl.2 (fun e => d3 (Option.some.inj e).symm)), b1.block (g2.block M b1.lt (fun e => d1 (Option.some.inj e).symm)), ?_, by simp [h.len], fun i hi => ?_, h.dif⟩, g2⟩
  · rw [s2]; exact o2
  · rw [List.mem_cons]
    by_cases e : i = k
    · subst e
      simp [List.getD, h.len, hi]
    · have e2 : (R.set k true).getD i false = R.getD i false := by simp [List.getD, List.getElem?_set_ne (Ne.symm e)]
      rw [e2, h.mks i hi]
      constructor
      · exact .inr
      · rintro (h1 | h1)
        · exact absurd (by omega) e
        · exact h1
theorem RgI.done {w : World} {M mb r g : Nat} {cs : List Value} {lo : Nat} {ks dn : List Int} {R S : List Bool} {n : Nat} (h : RgI w M mb r g cs lo ks dn R n) (hS : S.length = 32) (hks : ∀ k : Int, k ∈ ks ↔ (0 ≤ k ∧ metM S k = true)) (hall : ∀ k ∈ ks, k ∈ dn) : R = S := by
  have hdn : ∀ k ∈ dn, k ∈ ks := by
    obtain ⟨es, clock, seen, _, _, he, _, _, hd⟩ := h.rng
    intro k hk
    obtain ⟨e, hem, hek, _⟩ := (hd k).1 hk
    obtain ⟨k2, hk2, h2, _⟩ := (key_mem he).1 e hem
    rw [hek] at h2
    simp only [Value.int.injEq, true_and] at h2
    rw [h2]; exact hk2
  apply List.ext_getElem (by rw [h.len, hS])
  intro i h1 h2
  have hi : i < 32 := by rw [h.len] at h1; exact h1
  have a1 : R.getD i false = R[i] := by simp [List.getD, h1]
  have a2 : metM S (i : Int) = S[i] := by simp [metM, List.getD, h2]
  rw [← a1, ← a2, Bool.eq_iff_iff, h.mks i hi]
  exact ⟨fun hh => ((hks i).1 (hdn _ hh)).2, fun hh => hall _ ((hks i).2 ⟨by omega, hh⟩)⟩

set_option maxHeartbeats 400000 in
theorem oidOk_in (x : Int) (h1 : 1 ≤ x) (h2 : x ≤ 31) (w : World) : Calls Tryz.prog 39 #[.int .i64 x] w fun e w' => e = .returned (.bool true) ∧ w' = w := by
  go_enter Tryz.func39, Tryz.ntmps39
  go_wp2
  go_ret
  exact ⟨rfl, rfl⟩
set_option maxHeartbeats 400000 in
theorem oidOk_out (x : Int) (h : ¬ (1 ≤ x ∧ x ≤ 31)) (w : World) : Calls Tryz.prog 39 #[.int .i64 x] w fun e w' => e = .returned (.bool false) ∧ w' = w := by
  by_cases h1 : 1 ≤ x
  · have h2 : ¬ x ≤ 31 := fun h2 => h ⟨h1, h2⟩
    clear h
    go_enter Tryz.func39, Tryz.ntmps39
    go_wp2
    go_ret
    exact ⟨rfl, rfl⟩
  · clear h
    go_enter Tryz.func39, Tryz.ntmps39
    go_wp2
    go_ret
    exact ⟨rfl, rfl⟩
end Go.Proofs.YtajcffchopcamaaGreatDoor
