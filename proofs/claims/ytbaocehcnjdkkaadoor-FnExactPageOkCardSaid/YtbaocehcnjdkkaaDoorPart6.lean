/- Several texts in one, in their order. -/
import Derived.Test.YtbaocehcnjdkkaaDoorProg
import Derived.Test.YtbaocehcnjdkkaaDoorPart1
import Derived.LaidEql
import Derived.Stop.Asserts
import Derived.RowKitTokens
import Derived.Test.YtbaocehcnjdkkaaDoorPart4
import Derived.Deep.MidRow
import Derived.Deep.RegionHeld3
import Derived.ProofKit
import Derived.OpenShut
import Derived.ChangeOld
import Derived.ChangeArms
import Derived.Test.YtbaocehcnjdkkaaDoorPart5
import Derived.Test.YtbaocehcnjdkkaaDoorRows
import Derived.LaidLaws
import Derived.LaidHandle
import Derived.Stop.Joined
import Derived.ChangeVars
/- errors.As at a noObject: the walks of errors.As and of impl.isNoObject. -/
namespace Go.Proofs.YtbaocehcnjdkkaaDoor
open Go.RowKit Go.Extern.Stop Go.Stop Go.Extern

/-- The variable errors.errorType holds the handle of the type error. -/
def ErrT (w : World) : Prop := w.cell? ⟨0, 0, none⟩ = some (.iface 154 (.agg #[.pointer (some ⟨1, 123, none⟩)]))

theorem ErrT.lt {w : World} (h : ErrT w) : 0 < w.heap.size := by
  unfold ErrT at h
  rcases Nat.lt_or_ge 0 w.heap.size with h0 | h0
  · exact h0
  · simp [World.cell?, Array.getElem?_eq_none h0] at h
theorem ErrT.below {w w' : World} {n : Nat} (h : ErrT w) (hb : Below n w w') (hn : 0 < n) : ErrT w' := by
  unfold ErrT at h ⊢
  rw [hb.cell (p := ⟨0, 0, none⟩) hn]
  exact h
theorem ErrT.keep {w w' : World} (h : ErrT w) (hb : Below w.heap.size w w') : ErrT w' := h.below hb h.lt

theorem Tryd.asValueOfP (t : Addr) (w : World) : (ReflectliteValue.unpack (.iface 133 (.pointer (some t)))).run Tryd.prog w
    = .ok (.agg #[.pointer (some ⟨1, 133, none⟩), .pointer (some ⟨w.heap.size, 0, none⟩), .int .u64 150]) (w.alloc (.cells #[.pointer (some t)] 133)) := by kernel_rfl
theorem Tryd.asTypeP (a : Addr) (w : World) : (ReflectliteValue.methodAny (ReflectliteValue.valueError "reflectlite.Value.Type" 0) (fun t _ _ _ => ReflectliteType.toType t) #[.agg #[.pointer (some ⟨1, 133, none⟩), .pointer (some a), .int .u64 150]]).run Tryd.prog w
    = .ok (.iface 154 (.agg #[.pointer (some ⟨1, 133, none⟩)])) w := by kernel_rfl
theorem Tryd.asMethodKind (h : Value) (w : World) : (Go.method 296 154 (.agg #[h]) "Kind").run Tryd.prog w = .ok (144, h) w := by kernel_rfl
theorem Tryd.asKindP (w : World) : ((ReflectliteType.abiMethod fun t => (fun a : Nat => Value.int IntKind.u8 (a : Int)) <$> Rtype.kind t) #[.pointer (some ⟨1, 133, none⟩)]).run Tryd.prog w = .ok (.int .u8 22) w := by kernel_rfl
theorem Tryd.asKindS (w : World) : ((ReflectliteType.abiMethod fun t => (fun a : Nat => Value.int IntKind.u8 (a : Int)) <$> Rtype.kind t) #[.pointer (some ⟨1, 131, none⟩)]).run Tryd.prog w = .ok (.int .u8 25) w := by kernel_rfl

theorem rlm (z : Sem Value) (f : TypeId → Addr → Nat → Nat → Sem Value) (v : Value) :
    ReflectliteValue.method z f #[v] = (do match ← ReflectliteValue.parts v with | none => z | some (t, a, fl) => f t a fl (fl % 32)) := rfl
theorem Tryd.asPartsP (a : Addr) (w : World) : (ReflectliteValue.parts (.agg #[.pointer (some ⟨1, 133, none⟩), .pointer (some a), .int .u64 150])).run Tryd.prog w = .ok (some (133, a, 150)) w := by kernel_rfl
theorem Tryd.asIsNilP (a p : Addr) (W : World) (ha : W.cell? a = some (.pointer (some p))) :
    (ReflectliteValue.method (ReflectliteValue.valueError "reflectlite.Value.IsNil" 0) ReflectliteValue.isNil #[.agg #[.pointer (some ⟨1, 133, none⟩), .pointer (some a), .int .u64 150]]).run Tryd.prog W = .ok (.bool false) W := by
  rw [rlm]
  simp only [Sem.run_bind, Tryd.asPartsP, Result.andThen]
  simp [ReflectliteValue.isNil, loadVar, isAgg, underlying, Tryd.underlying133, ha, Result.andThen]

theorem Tryd.asMethodElem (h : Value) (w : World) : (Go.method 296 154 (.agg #[h]) "Elem").run Tryd.prog w = .ok (154, .agg #[h]) w := by kernel_rfl
theorem Tryd.asMethodImplements (h : Value) (w : World) : (Go.method 296 154 (.agg #[h]) "Implements").run Tryd.prog w = .ok (155, .agg #[h]) w := by kernel_rfl
theorem Tryd.asMethodAssignableTo (h : Value) (w : World) : (Go.method 296 154 (.agg #[h]) "AssignableTo").run Tryd.prog w = .ok (152, .agg #[h]) w := by kernel_rfl
theorem Tryd.asElemP (w : World) : (ReflectliteType.method ReflectliteType.elem #[.agg #[.pointer (some ⟨1, 133, none⟩)]]).run Tryd.prog w = .ok (.iface 154 (.agg #[.pointer (some ⟨1, 131, none⟩)])) w := by kernel_rfl
theorem Tryd.asImplementsS (w : World) : (ReflectliteType.relation "Implements" ReflectliteType.implements_ #[.agg #[.pointer (some ⟨1, 131, none⟩)], .iface 154 (.agg #[.pointer (some ⟨1, 123, none⟩)])]).run Tryd.prog w = .ok (.bool true) w := by kernel_rfl
theorem Tryd.asTypeOfS (v : Value) (w : World) : (ReflectliteType.typeOf #[.iface 131 v]).run Tryd.prog w = .ok (.iface 154 (.agg #[.pointer (some ⟨1, 131, none⟩)])) w := by kernel_rfl
theorem Tryd.asAssignableS (w : World) : (ReflectliteType.relation "AssignableTo" ReflectliteType.assignableTo #[.agg #[.pointer (some ⟨1, 131, none⟩)], .iface 154 (.agg #[.pointer (some ⟨1, 131, none⟩)])]).run Tryd.prog w = .ok (.bool true) w := by kernel_rfl
theorem Tryd.asValueOfS (s : ByteArray) (w : World) : (ReflectliteValue.unpack (.iface 131 (.agg #[.string s]))).run Tryd.prog w
    = .ok (.agg #[.pointer (some ⟨1, 131, none⟩), .pointer (some ⟨w.heap.size, 0, none⟩), .int .u64 153]) (w.alloc (.cells #[.string s] 131)) := by kernel_rfl

theorem Tryd.asElemOfP (w : World) : (Rtype.elem? 133).run Tryd.prog w = .ok (some 131) w := by kernel_rfl
theorem Tryd.asMkS (p : Addr) (w : World) : (ReflectliteValue.mk 131 p ReflectliteValue.flagAddr).run Tryd.prog w = .ok (.agg #[.pointer (some ⟨1, 131, none⟩), .pointer (some p), .int .u64 409]) w := by kernel_rfl
theorem Tryd.asElemV (a p : Addr) (W : World) (ha : W.cell? a = some (.pointer (some p))) :
    (ReflectliteValue.method (ReflectliteValue.valueError "reflectlite.Value.Elem" 0) ReflectliteValue.elem #[.agg #[.pointer (some ⟨1, 133, none⟩), .pointer (some a), .int .u64 150]]).run Tryd.prog W
      = .ok (.agg #[.pointer (some ⟨1, 131, none⟩), .pointer (some p), .int .u64 409]) W := by
  rw [rlm]
  simp only [Sem.run_bind, Tryd.asPartsP, Result.andThen]
  simp [ReflectliteValue.elem, loadVar, isAgg, underlying, Tryd.underlying133, ha, Result.andThen, Tryd.asElemOfP, Tryd.asMkS]
theorem rls (v x : Value) : ReflectliteValue.set #[v, x] = (do
    let (some (dst, a, fl), some (src, b, _)) := (← ReflectliteValue.parts v, ← ReflectliteValue.parts x)
      | unsupported (.noEntry "extern/(internal/reflectlite.Value).Set.zeroValue")
    if fl / ReflectliteValue.flagAddr % 2 == 0 then unsupported (.noEntry "extern/(internal/reflectlite.Value).Set.unaddressable")
    let val ← loadVar src b
    if ← Rtype.directlyAssignable dst src then storeVar dst a val
    else if ← Rtype.implements dst src then
      if (← Rtype.kind src) == 20 then
        match val with
        | .nilIface => unsupported (.noEntry "extern/reflectlite: a nil value of one interface type handed on as a value of another")
        | _ => storeVar dst a val
      else storeVar dst a (.iface src val)
    else panicString ("reflectlite.Set: value of type " ++ (← Rtype.spelt src) ++ " is not assignable to type " ++ (← Rtype.spelt dst))
    pure (.tuple #[])) := rfl
theorem Tryd.asPartsSa (a : Addr) (w : World) : (ReflectliteValue.parts (.agg #[.pointer (some ⟨1, 131, none⟩), .pointer (some a), .int .u64 409])).run Tryd.prog w = .ok (some (131, a, 409)) w := by kernel_rfl
theorem Tryd.asPartsS (a : Addr) (w : World) : (ReflectliteValue.parts (.agg #[.pointer (some ⟨1, 131, none⟩), .pointer (some a), .int .u64 153])).run Tryd.prog w = .ok (some (131, a, 153)) w := by kernel_rfl
theorem Tryd.asDirectS (w : World) : (Rtype.directlyAssignable 131 131).run Tryd.prog w = .ok true w := by kernel_rfl
theorem Tryd.asSizeS (w : World) : (sizeOf 131).run Tryd.prog w = .ok 1 w := by kernel_rfl
theorem Tryd.asSetS (ta b : Addr) (s : ByteArray) (old : Value) (W : World) (hb : W.cell? b = some (.string s)) (ht : W.cell? ta = some old) (hf : W.frozen? ta = false) :
    (ReflectliteValue.set #[.agg #[.pointer (some ⟨1, 131, none⟩), .pointer (some ta), .int .u64 409], .agg #[.pointer (some ⟨1, 131, none⟩), .pointer (some b), .int .u64 153]]).run Tryd.prog W
      = .ok (.tuple #[]) (W.setCell ta (.string s)) := by
  rw [rls]
  simp only [Sem.run_bind, Tryd.asPartsSa, Tryd.asPartsS, Result.andThen]
  simp [ReflectliteValue.flagAddr, loadVar, loadCells, loadCellsFrom, hb, Result.andThen, Tryd.asDirectS, storeVar, Value.cells, storeCells, Addr.add]
  rw [run_store Tryd.prog W ta _ _ (by rfl)]
  simp [ht, hf]

/-- errors.As(nil, target). -/
theorem as_nil (t : Value) (w : World) : Calls Tryd.prog 117 #[.nilIface, t] w fun e w' => e = .returned (.bool false) ∧ w' = w := by
  go_enter Tryd.func117, Tryd.ntmps117
  go_wp2
  go_ret
  exact ⟨rfl, rfl⟩

set_option maxHeartbeats 4000000 in
theorem as_hit (s : ByteArray) (t : Addr) (old : Value) (w : World) (hg : w.cell? ⟨0, 0, none⟩ = some (.iface 154 (.agg #[.pointer (some ⟨1, 123, none⟩)]))) (ht0 : w.cell? t = some old) (hf0 : w.frozen? t = false) :
    Calls Tryd.prog 117 #[.iface 131 (.agg #[.string s]), .iface 133 (.pointer (some t))] w fun ev w' => ev = .returned (.bool true) ∧ w' = ((((w.alloc (.cells #[.pointer (some t)] 133)).alloc (.cells #[.pointer (some ⟨1, 133, none⟩), .pointer (some ⟨w.heap.size, 0, none⟩), .int .u64 150] 141)).alloc (.cells #[.pointer (some ⟨1, 133, none⟩), .pointer (some ⟨w.heap.size, 0, none⟩), .int .u64 150] 141)).alloc (.cells #[.string s] 131)).setCell t (.string s) := by
  have h6 := @run_callFunc_extern Tryd.prog 122 _ (fun args => ReflectliteValue.unpack (args.getD 0 (.tuple #[]))) Tryd.func122 (by kernel_rfl) (by kernel_rfl) (by kernel_rfl) (by kernel_rfl)
  have h7 := @run_callFunc_extern Tryd.prog 123 _ (ReflectliteValue.methodAny (ReflectliteValue.valueError "reflectlite.Value.Type" 0) (fun t _ _ _ => ReflectliteType.toType t)) Tryd.func123 (by kernel_rfl) (by kernel_rfl) (by kernel_rfl) (by kernel_rfl)
  have h8 := @run_callFunc_extern Tryd.prog 124 _ (ReflectliteValue.method (ReflectliteValue.valueError "reflectlite.Value.IsNil" 0) ReflectliteValue.isNil) Tryd.func124 (by kernel_rfl) (by kernel_rfl) (by kernel_rfl) (by kernel_rfl)
  have h27 := @run_callFunc_extern Tryd.prog 144 _ (ReflectliteType.abiMethod fun t => do pure (.int .u8 (← Rtype.kind t))) Tryd.func144 (by kernel_rfl) (by kernel_rfl) (by kernel_rfl) (by kernel_rfl)
  have h37 := @run_callFunc_extern Tryd.prog 154 _ (ReflectliteType.method ReflectliteType.elem) Tryd.func154 (by kernel_rfl) (by kernel_rfl) (by kernel_rfl) (by kernel_rfl)
  have h38 := @run_callFunc_extern Tryd.prog 155 _ (ReflectliteType.relation "Implements" ReflectliteType.implements_) Tryd.func155 (by kernel_rfl) (by kernel_rfl) (by kernel_rfl) (by kernel_rfl)
  have h10 := @run_callFunc_extern Tryd.prog 127 _ ReflectliteType.typeOf Tryd.func127 (by kernel_rfl) (by kernel_rfl) (by kernel_rfl) (by kernel_rfl)
  have h35 := @run_callFunc_extern Tryd.prog 152 _ (ReflectliteType.relation "AssignableTo" ReflectliteType.assignableTo) Tryd.func152 (by kernel_rfl) (by kernel_rfl) (by kernel_rfl) (by kernel_rfl)
  have h11 := @run_callFunc_extern Tryd.prog 128 _ (ReflectliteValue.method (ReflectliteValue.valueError "reflectlite.Value.Elem" 0) ReflectliteValue.elem) Tryd.func128 (by kernel_rfl) (by kernel_rfl) (by kernel_rfl) (by kernel_rfl)
  have h12 := @run_callFunc_extern Tryd.prog 129 _ ReflectliteValue.set Tryd.func129 (by kernel_rfl) (by kernel_rfl) (by kernel_rfl) (by kernel_rfl)
  have tO := Tryd.asTypeOfS
  have mA := Tryd.asMethodAssignableTo
  have a25 := Tryd.asAssignableS
  have v25 := Tryd.asValueOfS
  have f6 := Tryd.asValueOfP
  have f7 := Tryd.asTypeP
  have mK := Tryd.asMethodKind
  have mE := Tryd.asMethodElem
  have mI := Tryd.asMethodImplements
  have k27 := Tryd.asKindP
  have k25 := Tryd.asKindS
  have e27 := Tryd.asElemP
  have i25 := Tryd.asImplementsS
  have n8 := Tryd.asIsNilP ⟨w.heap.size, 0, none⟩ t ((w.alloc (.cells #[.pointer (some t)] 133)).alloc (.cells #[.pointer (some ⟨1, 133, none⟩), .pointer (some ⟨w.heap.size, 0, none⟩), .int .u64 150] 141)) (by simp)
  have hlt : 0 < w.heap.size := by
    rcases Nat.lt_or_ge 0 w.heap.size with h0 | h0
    · exact h0
    · simp [World.cell?, Array.getElem?_eq_none h0] at hg
  have hg2 : ((w.alloc (.cells #[.pointer (some t)] 133)).alloc (.cells #[.pointer (some ⟨1, 133, none⟩), .pointer (some ⟨w.heap.size, 0, none⟩), .int .u64 150] 141)).cell? ⟨0, 0, none⟩ = some (.iface 154 (.agg #[.pointer (some ⟨1, 123, none⟩)])) := by
    rw [World.cell?_alloc_lt _ _ ⟨0, 0, none⟩ (Nat.lt_of_lt_of_le hlt (by simp)), World.cell?_alloc_lt _ _ ⟨0, 0, none⟩ hlt]; exact hg
  have htl : t.block < w.heap.size := by
    rcases Nat.lt_or_ge t.block w.heap.size with h | h
    · exact h
    · simp [World.cell?, Array.getElem?_eq_none h] at ht0
  have el := Tryd.asElemV ⟨w.heap.size, 0, none⟩ t (((w.alloc (.cells #[.pointer (some t)] 133)).alloc (.cells #[.pointer (some ⟨1, 133, none⟩), .pointer (some ⟨w.heap.size, 0, none⟩), .int .u64 150] 141)).alloc (.cells #[.pointer (some ⟨1, 133, none⟩), .pointer (some ⟨w.heap.size, 0, none⟩), .int .u64 150] 141)) (by rw [World.cell?_alloc_lt _ _ ⟨w.heap.size, 0, none⟩ (by simp; omega)]; simp)
  have st := Tryd.asSetS t ⟨w.heap.size + 1 + 1 + 1, 0, none⟩ s old ((((w.alloc (.cells #[.pointer (some t)] 133)).alloc (.cells #[.pointer (some ⟨1, 133, none⟩), .pointer (some ⟨w.heap.size, 0, none⟩), .int .u64 150] 141)).alloc (.cells #[.pointer (some ⟨1, 133, none⟩), .pointer (some ⟨w.heap.size, 0, none⟩), .int .u64 150] 141)).alloc (.cells #[.string s] 131))
    (by rw [World.cell?_alloc_at _ _ _ _ (by simp)]; rfl)
    (by rw [World.cell?_alloc_lt _ _ t (by simp; omega), World.cell?_alloc_lt _ _ t (by simp; omega), World.cell?_alloc_lt _ _ t (by simp; omega), World.cell?_alloc_lt _ _ t htl]; exact ht0)
    (by rw [World.frozen?_alloc_old _ _ t (by simp; omega), World.frozen?_alloc_old _ _ t (by simp; omega), World.frozen?_alloc_old _ _ t (by simp; omega), World.frozen?_alloc_old _ _ t (Nat.ne_of_lt htl)]; exact hf0)
  go_enter Tryd.func117, Tryd.ntmps117
  go_wp2
  refine wp_loop_rounds 1 ?_
  rw [rounds_succ]
  go_wp2
  go_ret
  exact ⟨rfl, rfl⟩

theorem isNo_nil (w : World) : Calls Tryd.prog 106 #[.nilIface] w fun e w' => e = .returned (.bool false) ∧ Below w.heap.size w w' := by
  go_enter Tryd.func106, Tryd.ntmps106
  go_wp2_with fail
  refine (as_nil _ _).mono ?_
  rintro e w' ⟨rfl, rfl⟩
  go_wp2
  go_ret
  exact ⟨rfl, (Below.refl _ _).alloc (Nat.le_refl _) _⟩

set_option maxHeartbeats 1000000 in
theorem isNo_hit (s : ByteArray) (w : World) (hg : ErrT w) : Calls Tryd.prog 106 #[.iface 131 (.agg #[.string s])] w fun e w' => e = .returned (.bool true) ∧ Below w.heap.size w w' := by
  have hgA : ErrT (w.alloc (.cells #[.string ⟨#[]⟩] 131)) := hg.keep ((Below.refl _ _).alloc (Nat.le_refl _) _)
  go_enter Tryd.func106, Tryd.ntmps106
  go_wp2_with fail
  refine (as_hit s ⟨w.heap.size, 0, none⟩ (.string ⟨#[]⟩) _ hgA (by simp) (by simp)).mono ?_
  rintro e w' ⟨rfl, rfl⟩
  go_wp2
  go_ret
  refine ⟨rfl, ?_⟩
  exact (((((Below.refl _ _).alloc (Nat.le_refl _) _).alloc (by simp) _).alloc (by simp; omega) _).alloc (by simp; omega) _).alloc (by simp; omega) _
end Go.Proofs.YtbaocehcnjdkkaaDoor

/- When an object is right; the walks of impl.partsOk, impl.checkObj and impl.ObjOk. -/
namespace Go.Proofs.YtbaocehcnjdkkaaDoor
open Go.RowKit

def partsB (l : List Int) (least most : Int) : Bool := decide (l.length ≤ 5) && l.all (fun z => inB z least most)
theorem partsB_at {l : List Int} {least most : Int} (j : Nat) (hj : j < l.length) (h : inB (l.getD j 0) least most = false) : partsB l least most = false := by
  have : (l.all (fun z => inB z least most)) = false := by
    rw [List.all_eq_false]
    exact ⟨l.getD j 0, by simp [List.getD, hj], by rw [h]; decide⟩
  simp [partsB, this]
theorem partsB_all {l : List Int} {least most : Int} (h : ∀ j, j < l.length → inB (l.getD j 0) least most = true) : partsB l least most = decide (l.length ≤ 5) := by
  have : (l.all (fun z => inB z least most)) = true := by
    rw [List.all_eq_true]
    intro z hz
    obtain ⟨j, hj, rfl⟩ := List.getElem_of_mem hz
    have := h j hj
    simpa [List.getD, hj] using this
  simp [partsB, this]
theorem okB_parts (o : ObjV) : okB o = (inB o.kind 1 99 && (partsB o.ints (-1000000) 1000000 && partsB o.refs 0 31)) := by
  unfold okB partsB
  cases inB o.kind 1 99 <;> cases decide (o.ints.length ≤ 5) <;> cases decide (o.refs.length ≤ 5) <;> cases o.ints.all (fun z => inB z (-1000000) 1000000) <;> simp

theorem inB_false {x l m : Int} (h : inB x l m = false) : x < l ∨ (¬ x < l ∧ m < x) := by simp [inB] at h; omega
theorem inB_true {x l m : Int} (h : inB x l m = true) : ¬ x < l ∧ ¬ m < x := by simp [inB] at h; omega

/-- What checkObj answers of what is right, and of what is not. -/
def IsErr (ok : Bool) (e : Ending) : Prop := (ok = true ∧ e = .returned .nilIface) ∨ (ok = false ∧ ∃ s, e = .returned (.iface 131 (.agg #[.string s])))
theorem isErr_ok {ok : Bool} (h : ok = true) : IsErr ok (.returned .nilIface) := .inl ⟨h, rfl⟩
theorem isErr_no {ok : Bool} (h : ok = false) (s : ByteArray) : IsErr ok (.returned (.iface 131 (.agg #[.string s]))) := .inr ⟨h, s, rfl⟩

set_option maxHeartbeats 400000 in
theorem partsOk_any (a : Option Addr) (c : Nat) (l : List Int) (least most : Int) (w : World) (hr : ReadsI w a l) (hl : l.length ≤ 140737488355328) :
    Calls Tryd.prog 118 #[.slice a l.length c, .int .i64 least, .int .i64 most] w fun e w' => e = .returned (.bool (partsB l least most)) ∧ w' = w := by
  go_enter Tryd.func118, Tryd.ntmps118
  go_wp2
  go_loop [11] (fun i => ∃ j : Nat, j ≤ l.length ∧ i = .int .i64 j ∧ Hid (∀ t, t < j → inB (l.getD t 0) least most = true)) (fun i => l.length - (intOf i).toNat)
  case atStart => exact ⟨0, by omega, rfl, fun t ht => by omega⟩
  case round =>
    obtain ⟨j, hj, rfl, hall⟩ := hrel
    by_cases hlt : j < l.length
    · rcases hr.cases with rfl | ⟨b, off, rfl, hpos, hcell⟩
      · simp at hlt
      have hc := hcell j hlt
      clear hcell
      cases hz : inB (l.getD j 0) least most with
      | false =>
        have HE : Hid (partsB l least most = false) := partsB_at j hlt hz
        have hz' := inB_false hz
        clear hz
        generalize l.getD j 0 = z at *
        rcases hz' with h1 | ⟨h1, h2⟩
        all_goals
          go_wp2
          go_ret
          exact ⟨ret_bool HE.out.symm, rfl⟩
      | true =>
        have HN : Hid (∀ t, t < j + 1 → inB (l.getD t 0) least most = true) := by
          intro t ht
          by_cases e : t = j
          · rw [e]; exact hz
          · exact hall.out t (by omega)
        obtain ⟨h1, h2⟩ := inB_true hz
        clear hz
        generalize l.getD j 0 = z at *
        go_wp2
        go_round
        case rel => exact ⟨j + 1, by omega, by go_num, HN⟩
        case measure => simp [intOf]; omega
    · have HE : Hid (partsB l least most = decide (l.length ≤ 5)) := partsB_all (fun t ht => hall.out t (by omega))
      go_wp2
      go_ret
      exact ⟨ret_bool (by rw [HE.out]; exact decide_eq_decide.2 (by omega)), rfl⟩

set_option maxHeartbeats 1000000 in
set_option maxRecDepth 100000 in
theorem checkObj_any (o : ObjV) (aI : Option Addr) (cI : Nat) (aR : Option Addr) (cR : Nat) (w : World) (hr : ReadsO w aI cI aR cR o) (hnI : o.ints.length ≤ 140737488355328) (hnR : o.refs.length ≤ 140737488355328) :
    Calls Tryd.prog 107 #[.agg #[.int .i64 o.kind, .slice aI o.ints.length cI, .slice aR o.refs.length cR]] w fun e w' => IsErr (okB o) e ∧ Below w.heap.size w w' := by
  have HOK := okB_parts o
  generalize okB o = OK at *
  obtain ⟨k, ints, refs⟩ := o
  obtain ⟨hI, hR, _, _⟩ := hr
  simp only at *
  obtain ⟨W, hW, b0, hbW, hsW⟩ := boxes1 w [.int .i64 k, .slice aI ints.length cI, .slice aR refs.length cR] 26
  have hI' := hI.below hbW
  have hR' := hR.below hbW
  have x0 := b0.cell 0 _ rfl
  have x1 := b0.cell 1 _ rfl
  have x2 := b0.cell 2 _ rfl
  cases hk : inB k 1 99 with
  | false =>
    have HF : Hid (OK = false) := by rw [Hid, HOK, hk, Bool.false_and]
    clear HOK
    have hz' := inB_false hk
    clear hk
    rcases hz' with h1 | ⟨h1, h2⟩
    all_goals
      go_enter Tryd.func107, Tryd.ntmps107
      go_wp2
      go_ret
      exact ⟨isErr_no HF.out _, hW.out ▸ hbW⟩
  | true =>
  rw [hk, Bool.true_and] at HOK
  obtain ⟨h1, h2⟩ := inB_true hk
  clear hk
  cases hp : partsB ints (-1000000) 1000000 with
  | false =>
    have HF : Hid (OK = false) := by rw [Hid, HOK, hp, Bool.false_and]
    clear HOK
    have HP : Hid (_ = _) := hp
    clear hp
    go_enter Tryd.func107, Tryd.ntmps107
    go_wp2_with fail
    rw [hW.out]
    refine (partsOk_any aI cI ints _ _ W hI' hnI).mono ?_
    rintro e w' ⟨rfl, rfl⟩
    rw [HP.out]
    go_wp2
    go_ret
    exact ⟨isErr_no HF.out _, hbW⟩
  | true =>
  rw [hp, Bool.true_and] at HOK
  have HP : Hid (_ = _) := hp
  clear hp
  cases hq : partsB refs 0 31 with
  | false =>
    have HF : Hid (OK = false) := by rw [Hid, HOK, hq]
    clear HOK
    have HQ : Hid (_ = _) := hq
    clear hq
    go_enter Tryd.func107, Tryd.ntmps107
    go_wp2_with fail
    rw [hW.out]
    refine (partsOk_any aI cI ints _ _ W hI' hnI).mono ?_
    rintro e w' ⟨rfl, rfl⟩
    rw [HP.out]
    go_wp2_with fail
    refine (partsOk_any aR cR refs _ _ _ hR' hnR).mono ?_
    rintro e w' ⟨rfl, rfl⟩
    rw [HQ.out]
    go_wp2
    go_ret
    exact ⟨isErr_no HF.out _, hbW⟩
  | true =>
    have HF : Hid (OK = true) := by rw [Hid, HOK, hq]
    clear HOK
    have HQ : Hid (_ = _) := hq
    clear hq
    go_enter Tryd.func107, Tryd.ntmps107
    go_wp2_with fail
    rw [hW.out]
    refine (partsOk_any aI cI ints _ _ W hI' hnI).mono ?_
    rintro e w' ⟨rfl, rfl⟩
    rw [HP.out]
    go_wp2_with fail
    refine (partsOk_any aR cR refs _ _ _ hR' hnR).mono ?_
    rintro e w' ⟨rfl, rfl⟩
    rw [HQ.out]
    go_wp2
    go_ret
    exact ⟨isErr_ok HF.out, hbW⟩

set_option maxHeartbeats 1000000 in
set_option maxRecDepth 100000 in
theorem implObjOk_any (o : ObjV) (aI : Option Addr) (cI : Nat) (aR : Option Addr) (cR : Nat) (w : World) (hg : ErrT w) (hr : ReadsO w aI cI aR cR o) (hnI : o.ints.length ≤ 140737488355328) (hnR : o.refs.length ≤ 140737488355328) :
    Calls Tryd.prog 82 #[.agg #[.int .i64 o.kind, .slice aI o.ints.length cI, .slice aR o.refs.length cR]] w fun e w' => e = .returned (.bool (okB o)) ∧ Below w.heap.size w w' := by
  obtain ⟨W, hW, b0, hbW, hsW⟩ := boxes1 w [.int .i64 o.kind, .slice aI o.ints.length cI, .slice aR o.refs.length cR] 26
  have hr' := hr.below hbW
  have hg' := hg.keep hbW
  have x0 := b0.cell 0 _ rfl
  have x1 := b0.cell 1 _ rfl
  have x2 := b0.cell 2 _ rfl
  go_enter Tryd.func82, Tryd.ntmps82
  go_wp2_with fail
  rw [hW.out]
  refine (checkObj_any o aI cI aR cR W hr' hnI hnR).mono ?_
  rintro e w1 ⟨he, hb1⟩
  have B1 : Below w.heap.size w w1 := hbW.trans (hb1.mono hbW.size)
  rcases he with ⟨hok, rfl⟩ | ⟨hok, s, rfl⟩
  · have HO : Hid (_ = _) := hok
    clear hok
    go_wp2_with fail
    refine (isNo_nil w1).mono ?_
    rintro e w2 ⟨rfl, hb2⟩
    go_wp2
    go_ret
    exact ⟨by rw [HO.out]; rfl, B1.trans (hb2.mono B1.size)⟩
  · have HO : Hid (_ = _) := hok
    clear hok
    go_wp2_with fail
    refine (isNo_hit s w1 (hg'.keep hb1)).mono ?_
    rintro e w2 ⟨rfl, hb2⟩
    go_wp2
    go_ret
    exact ⟨by rw [HO.out]; rfl, B1.trans (hb2.mono B1.size)⟩
end Go.Proofs.YtbaocehcnjdkkaaDoor

/- The walks of impl.slotHas, impl.slotOk and impl.markSlots over either; a slot of a row taken out by its number. -/
namespace Go.Proofs.YtbaocehcnjdkkaaDoor
open Go.RowKit

theorem slotB_same {s : SlotV} (h : s.has = false) : slotB s = sameO s.o noO := by
  obtain ⟨b, k, i, r⟩ := s
  simp only at h
  subst h
  show slotB ⟨false, k, i, r⟩ = (decide (k = (0 : Int)) && (decide (i = ([] : List Int)) && decide (r = ([] : List Int))))
  rw [Bool.eq_iff_iff]
  simp [slotB]

set_option maxHeartbeats 400000 in
set_option maxRecDepth 100000 in
theorem slotHas_any (s : SlotA) (w : World) :
    Calls Tryd.prog 53 #[.agg s.cells.toArray] w fun e w' => e = .returned (.bool s.v.has) ∧ Below w.heap.size w w' := by
  obtain ⟨W, hW, b0, hbW, hsW⟩ := boxes1 w s.cells 28
  simp only [SlotA.cells] at *
  go_enter Tryd.func53, Tryd.ntmps53
  go_wp2
  go_ret
  exact ⟨rfl, by rw [hW.out]; exact hbW⟩

set_option maxHeartbeats 400000 in
set_option maxRecDepth 100000 in
theorem slotOk_any (s : SlotA) (w : World) (hg : ErrT w) (hr : s.reads w) (hl : Fit [s]) :
    Calls Tryd.prog 45 #[.agg s.cells.toArray] w fun e w' => e = .returned (.bool (slotB s.v)) ∧ Below w.heap.size w w' := by
  obtain ⟨h1, h2⟩ := hl s (List.mem_singleton.2 rfl)
  obtain ⟨W, hW, b0, hbW, hsW⟩ := boxes1 w s.cells 28
  have hr' : s.reads W := ReadsO.below hr hbW
  have hg' := hg.keep hbW
  have HT : Hid (s.v.has = true → slotB s.v = okB s.v.o) := fun h => slotB_has h
  have HF : Hid (s.v.has = false → slotB s.v = sameO s.v.o noO) := fun h => slotB_same h
  have hno : ReadsO W none 0 none 0 noO := ⟨fun h => absurd rfl h, fun h => absurd rfl h, fun _ => rfl, fun _ => rfl⟩
  have C1 := implObjOk_any s.v.o s.aI s.cI s.aR s.cR W hg' hr' (by omega) (by omega)
  have C2 := implSameObj_any s.v.o noO s.aI s.cI s.aR s.cR none 0 none 0 W hr' hno (by omega) (by omega) (by simp [noO]) (by simp [noO])
  simp only [noO] at C2
  generalize slotB s.v = R at *
  simp only [SlotA.cells] at *
  cases hh : s.v.has with
  | true =>
    have HE : Hid (_ = _) := HT.out hh
    rw [hh] at hW
    clear hh C2 HT HF
    go_enter Tryd.func45, Tryd.ntmps45
    go_wp2_with fail
    rw [hW.out]
    refine C1.mono ?_
    rintro e w1 ⟨rfl, hb1⟩
    go_wp2
    go_ret
    exact ⟨ret_bool HE.out.symm, hbW.trans (hb1.mono hbW.size)⟩
  | false =>
    have HE : Hid (_ = _) := HF.out hh
    rw [hh] at hW
    clear hh C1 HT HF
    go_enter Tryd.func45, Tryd.ntmps45
    go_wp2_with fail
    rw [hW.out]
    refine C2.mono ?_
    rintro e w1 ⟨rfl, hb1⟩
    go_wp2
    go_ret
    exact ⟨ret_bool HE.out.symm, hbW.trans (hb1.mono hbW.size)⟩

theorem cells_take (ss : List SlotA) (k : Nat) (hk : k < ss.length) : ((cellsS ss).drop (k * 4)).take 4 = (ss.getD k zeroS).cells := by
  apply List.ext_getElem?
  intro j
  rw [List.getElem?_take]
  by_cases hj : j < 4
  · rw [if_pos (by omega), List.getElem?_drop]
    exact cellsS_at ss k j hk hj
  · rw [if_neg (by omega), List.getElem?_eq_none (by rw [cells_len]; omega)]
theorem run_index_slot (ss : List SlotA) (h4 : ss.length = 4) (k : Nat) (hk : k < 4) (w : World) :
    (Instr.index 29 (.agg (cellsS ss).toArray) (.int .i64 (k : Int))).run Tryd.prog w = .ok (.agg (ss.getD k zeroS).cells.toArray) w := by
  have he := cells_take ss k (by omega)
  have hz : (sizeOf 28).run Tryd.prog w = .ok 4 w := by kernel_rfl
  simp [Instr.index, asIntOf, part, run_underlying Tryd.underlying29, hz]
  rw [if_pos hk, he]
  simp [List.getD]
end Go.Proofs.YtbaocehcnjdkkaaDoor

/- The walks of impl.markSlots over impl.slotHas and over impl.slotOk. -/
namespace Go.Proofs.YtbaocehcnjdkkaaDoor
open Go.RowKit

/-- A row of four marks of which the first ones are laid. -/
def mkB (bs : List Bool) : List Value := bs.map Value.bool ++ List.replicate (4 - bs.length) (.bool false)
theorem mkB_set (bs : List Bool) (b : Bool) (h : bs.length < 4) : (mkB bs).set bs.length (.bool b) = mkB (bs ++ [b]) := by
  unfold mkB
  rw [List.set_append_right _ _ (by simp)]
  have e : 4 - bs.length = (4 - (bs ++ [b]).length) + 1 := by simp; omega
  rw [e, List.replicate_succ]
  simp
theorem mkB_len (bs : List Bool) (h : bs.length ≤ 4) : (mkB bs).length = 4 := by simp [mkB]; omega
theorem mkB_all (bs : List Bool) (h : bs.length = 4) : mkB bs = bs.map Value.bool := by simp [mkB, h]
theorem mkB_some (bs : List Bool) (h : bs.length ≤ 4) (k : Nat) (hk : k < 4) : ∃ v, (mkB bs)[k]? = some v := ⟨_, List.getElem?_eq_getElem (by rw [mkB_len bs h]; exact hk)⟩
/-- The answer is a row of these four marks. -/
def FourAns (bs : List Bool) (e : Ending) : Prop := ∃ c0 c1 c2 c3 : Bool, e = .returned (.agg #[.bool c0, .bool c1, .bool c2, .bool c3]) ∧ bs = [c0, c1, c2, c3]
theorem take_snoc (ss : List SlotA) (q : SlotV → Bool) (k : Nat) (h : k < ss.length) : (ss.take (k + 1)).map (fun s => q s.v) = (ss.take k).map (fun s => q s.v) ++ [q (ss.getD k zeroS).v] := by
  rw [List.take_add_one, List.map_append]
  simp [List.getD, h]

set_option maxHeartbeats 1000000 in
set_option maxRecDepth 100000 in
theorem markSlots_has (p : PageA) (h4 : p.ss.length = 4) (w : World) :
    Calls Tryd.prog 47 #[.agg p.cells.toArray, .func (.func 53) #[] #[]] w fun e w' => FourAns (p.ss.map (fun s => s.v.has)) e ∧ Below w.heap.size w w' := by
  obtain ⟨n, ss⟩ := p
  simp only [PageA.cells] at *
  obtain ⟨W, hW, b0, b1, b2, hbW, hsW⟩ := boxes3 w (.int .i64 n :: cellsS ss) [.bool false, .bool false, .bool false, .bool false] [.bool false, .bool false, .bool false, .bool false] 31 72 72
  have b2' : Box W (w.heap.size + 1 + 1) (mkB []) 72 := b2
  have hsW' : w.heap.size + 1 + 1 < W.heap.size := by omega
  have hrg0 : W.rangeAt w.heap.size 1 (cellsS ss) := Box.range [.int .i64 n] (cellsS ss) [] (by simpa using b0)
  have hi0 : (Tryd.prog.info? 29).map (·.size) = some (cellsS ss).length := by rw [cellsS_len, h4]; kernel_rfl
  have HX := run_index_slot ss h4
  have H4 : Hid (ss.length = 4) := h4
  clear b2 hsW h4
  go_enter Tryd.func47, Tryd.ntmps47
  go_wp2_with (first | (guard_target = wpList _ _ _ (Oper.mk (some 9) _ _ _ _ _ :: _) _ _; refine wpList_load_mid rfl 29 (.tmp 8) rfl w.heap.size 1 rfl (cellsS ss) _ (by rw [hW.out]; exact hrg0) Tryd.underlying29 rfl hi0 ?_) | fail)
  rw [hW.out]
  clear hW hrg0 hi0
  go_loopw [10] (fun i wr => ∃ (k : Nat) (bs : List Bool), i = .int .i64 k ∧ k ≤ 4 ∧ Hid (bs.length = k ∧ bs = (ss.take k).map (fun s => s.v.has)) ∧ Box wr (w.heap.size + 1 + 1) (mkB bs) 72 ∧ Below (w.heap.size + 1 + 1) W wr)
    (fun i _ => 4 - (intOf i).toNat)
  case atStart => exact ⟨0, [], rfl, by omega, ⟨rfl, rfl⟩, b2', Below.refl _ _⟩
  case round =>
    obtain ⟨k, bs, rfl, hk, hbs, hbox, hbl⟩ := hrel
    clear b2'
    have b1r := b1.below hbl (by omega)
    have hsr := hbl.size
    by_cases hlt : k < 4
    · have hkl : k < ss.length := by rw [H4.out]; exact hlt
      have hx := HX k hlt
      clear HX
      have hbs4 : bs.length ≤ 4 := by have := hbs.out.1; omega
      have HV : Hid (_ = _) := take_snoc ss (fun s => s.has) k hkl

      generalize ss.getD k zeroS = s at *
      simp only [SlotA.cells] at hx
      obtain ⟨W1, hW1, bx, hbx1, hsx1⟩ := boxes1 wr [.bool s.v.has, .int .i64 s.v.o.kind, .slice s.aI s.v.o.ints.length s.cI, .slice s.aR s.v.o.refs.length s.cR] 28
      have hsz := hbox.lt
      have B1 : Below (w.heap.size + 1 + 1) W W1 := hbl.trans (hbx1.mono (by omega))
      go_wp2_with fail
      rw [hW1.out]
      clear hx
      refine (slotHas_any s W1).mono ?_
      rintro e w2 ⟨rfl, hb2⟩
      have hs2 := hb2.size
      have bm2 := (hbox.below hbx1 hsz).below hb2 (by omega)
      obtain ⟨u, hu⟩ := mkB_some bs hbs4 k hlt
      have hc := bm2.cell k u hu
      have hf := bm2.frozen k
      obtain ⟨W3, hW3, b3, hw3, hs3⟩ := box_set bm2 k (.bool (s.v.has))
      have b3' : Box W3 (w.heap.size + 1 + 1) (mkB (bs ++ [s.v.has])) 72 := by
        have e := mkB_set bs (s.v.has) (by have := hbs.out.1; omega)
        rw [hbs.out.1] at e
        rw [← e]; exact b3
      have HB : Hid ((bs ++ [s.v.has]).length = k + 1 ∧ bs ++ [s.v.has] = (ss.take (k + 1)).map (fun s => s.v.has)) := ⟨by have := hbs.out.1; simp; omega, by rw [HV.out, ← hbs.out.2]⟩
      have B3 : Below (w.heap.size + 1 + 1) W W3 := (B1.trans (hb2.mono (by omega))).trans (hw3.below (Nat.le_refl _) (by omega))
      clear b3 bm2 hu HV
      go_wp2_with fail
      rw [hW3.out]
      go_roundw
      case rel => exact ⟨k + 1, bs ++ [s.v.has], by go_num, by omega, HB, b3', B3⟩
      case measure => simp [intOf]; omega
    · obtain rfl : k = 4 := by omega
      have hkk : ¬ ((4 : Nat) : Int) < 4 := by omega
      have HQ : Hid (bs = ss.map (fun s => s.v.has)) := by rw [Hid, hbs.out.2, List.take_of_length_le (by rw [H4.out]; omega)]
      obtain ⟨c0, c1, c2, c3, rfl⟩ : ∃ c0 c1 c2 c3, bs = [c0, c1, c2, c3] := by
        match bs, hbs.out.1 with
        | [c0, c1, c2, c3], _ => exact ⟨c0, c1, c2, c3, rfl⟩
      have hbx : Box wr (w.heap.size + 1 + 1) [.bool c0, .bool c1, .bool c2, .bool c3] 72 := hbox
      obtain ⟨x0, x1, x2, x3, _⟩ := hbx.four
      obtain ⟨y0, y1, y2, y3, f0, f1, f2, f3⟩ := b1r.four
      obtain ⟨WF, hWF, bF, hwF, hsF⟩ := box4_fill b1r (.bool c0) (.bool c1) (.bool c2) (.bool c3)
      have hbF : Below w.heap.size w WF := (hbW.trans (hbl.mono (by omega))).trans (hwF.below (by omega) (by omega))
      clear hbox hbs
      go_wp2
      rw [hWF.out]
      obtain ⟨q0, q1, q2, q3, _⟩ := bF.four
      exact bodyPost_ret (v := .agg #[.bool c0, .bool c1, .bool c2, .bool c3]) (by simp [results, Tryd.results47, go_sem, q0, q1, q2, q3]) rfl ⟨⟨c0, c1, c2, c3, rfl, HQ.out.symm⟩, hbF⟩

set_option maxHeartbeats 1000000 in
set_option maxRecDepth 100000 in
theorem markSlots_ok (p : PageA) (h4 : p.ss.length = 4) (w : World) (hg : ErrT w) (hr : ReadsS w p.ss) (hl : Fit p.ss) :
    Calls Tryd.prog 47 #[.agg p.cells.toArray, .func (.func 45) #[] #[]] w fun e w' => FourAns (p.ss.map (fun s => slotB s.v)) e ∧ Below w.heap.size w w' := by
  obtain ⟨n, ss⟩ := p
  simp only [PageA.cells] at *
  obtain ⟨W, hW, b0, b1, b2, hbW, hsW⟩ := boxes3 w (.int .i64 n :: cellsS ss) [.bool false, .bool false, .bool false, .bool false] [.bool false, .bool false, .bool false, .bool false] 31 72 72
  have b2' : Box W (w.heap.size + 1 + 1) (mkB []) 72 := b2
  have hsW' : w.heap.size + 1 + 1 < W.heap.size := by omega
  have hrg0 : W.rangeAt w.heap.size 1 (cellsS ss) := Box.range [.int .i64 n] (cellsS ss) [] (by simpa using b0)
  have hi0 : (Tryd.prog.info? 29).map (·.size) = some (cellsS ss).length := by rw [cellsS_len, h4]; kernel_rfl
  have HX := run_index_slot ss h4
  have H4 : Hid (ss.length = 4) := h4
  clear b2 hsW h4
  go_enter Tryd.func47, Tryd.ntmps47
  go_wp2_with (first | (guard_target = wpList _ _ _ (Oper.mk (some 9) _ _ _ _ _ :: _) _ _; refine wpList_load_mid rfl 29 (.tmp 8) rfl w.heap.size 1 rfl (cellsS ss) _ (by rw [hW.out]; exact hrg0) Tryd.underlying29 rfl hi0 ?_) | fail)
  rw [hW.out]
  clear hW hrg0 hi0
  go_loopw [10] (fun i wr => ∃ (k : Nat) (bs : List Bool), i = .int .i64 k ∧ k ≤ 4 ∧ Hid (bs.length = k ∧ bs = (ss.take k).map (fun s => slotB s.v)) ∧ Box wr (w.heap.size + 1 + 1) (mkB bs) 72 ∧ Below (w.heap.size + 1 + 1) W wr)
    (fun i _ => 4 - (intOf i).toNat)
  case atStart => exact ⟨0, [], rfl, by omega, ⟨rfl, rfl⟩, b2', Below.refl _ _⟩
  case round =>
    obtain ⟨k, bs, rfl, hk, hbs, hbox, hbl⟩ := hrel
    clear b2'
    have b1r := b1.below hbl (by omega)
    have hsr := hbl.size
    by_cases hlt : k < 4
    · have hkl : k < ss.length := by rw [H4.out]; exact hlt
      have hx := HX k hlt
      clear HX
      have hbs4 : bs.length ≤ 4 := by have := hbs.out.1; omega
      have HV : Hid (_ = _) := take_snoc ss (fun s => slotB s) k hkl
      have hgr := hg.keep (hbW.trans (hbl.mono (by omega)))
      have hrk := (hr _ (getD_mem hkl)).below (hbW.trans (hbl.mono (by omega)))
      have hlk : Fit [ss.getD k zeroS] := fun s hs => by obtain rfl := List.mem_singleton.1 hs; exact hl _ (getD_mem hkl)
      generalize ss.getD k zeroS = s at *
      simp only [SlotA.cells] at hx
      obtain ⟨W1, hW1, bx, hbx1, hsx1⟩ := boxes1 wr [.bool s.v.has, .int .i64 s.v.o.kind, .slice s.aI s.v.o.ints.length s.cI, .slice s.aR s.v.o.refs.length s.cR] 28
      have hsz := hbox.lt
      have B1 : Below (w.heap.size + 1 + 1) W W1 := hbl.trans (hbx1.mono (by omega))
      go_wp2_with fail
      rw [hW1.out]
      clear hx
      refine (slotOk_any s W1 (hgr.keep hbx1) (hrk.below hbx1) hlk).mono ?_
      rintro e w2 ⟨rfl, hb2⟩
      have hs2 := hb2.size
      have bm2 := (hbox.below hbx1 hsz).below hb2 (by omega)
      obtain ⟨u, hu⟩ := mkB_some bs hbs4 k hlt
      have hc := bm2.cell k u hu
      have hf := bm2.frozen k
      obtain ⟨W3, hW3, b3, hw3, hs3⟩ := box_set bm2 k (.bool (slotB s.v))
      have b3' : Box W3 (w.heap.size + 1 + 1) (mkB (bs ++ [slotB s.v])) 72 := by
        have e := mkB_set bs (slotB s.v) (by have := hbs.out.1; omega)
        rw [hbs.out.1] at e
        rw [← e]; exact b3
      have HB : Hid ((bs ++ [slotB s.v]).length = k + 1 ∧ bs ++ [slotB s.v] = (ss.take (k + 1)).map (fun s => slotB s.v)) := ⟨by have := hbs.out.1; simp; omega, by rw [HV.out, ← hbs.out.2]⟩
      have B3 : Below (w.heap.size + 1 + 1) W W3 := (B1.trans (hb2.mono (by omega))).trans (hw3.below (Nat.le_refl _) (by omega))
      clear b3 bm2 hu HV
      go_wp2_with fail
      rw [hW3.out]
      go_roundw
      case rel => exact ⟨k + 1, bs ++ [slotB s.v], by go_num, by omega, HB, b3', B3⟩
      case measure => simp [intOf]; omega
    · obtain rfl : k = 4 := by omega
      have hkk : ¬ ((4 : Nat) : Int) < 4 := by omega
      have HQ : Hid (bs = ss.map (fun s => slotB s.v)) := by rw [Hid, hbs.out.2, List.take_of_length_le (by rw [H4.out]; omega)]
      obtain ⟨c0, c1, c2, c3, rfl⟩ : ∃ c0 c1 c2 c3, bs = [c0, c1, c2, c3] := by
        match bs, hbs.out.1 with
        | [c0, c1, c2, c3], _ => exact ⟨c0, c1, c2, c3, rfl⟩
      have hbx : Box wr (w.heap.size + 1 + 1) [.bool c0, .bool c1, .bool c2, .bool c3] 72 := hbox
      obtain ⟨x0, x1, x2, x3, _⟩ := hbx.four
      obtain ⟨y0, y1, y2, y3, f0, f1, f2, f3⟩ := b1r.four
      obtain ⟨WF, hWF, bF, hwF, hsF⟩ := box4_fill b1r (.bool c0) (.bool c1) (.bool c2) (.bool c3)
      have hbF : Below w.heap.size w WF := (hbW.trans (hbl.mono (by omega))).trans (hwF.below (by omega) (by omega))
      clear hbox hbs
      go_wp2
      rw [hWF.out]
      obtain ⟨q0, q1, q2, q3, _⟩ := bF.four
      exact bodyPost_ret (v := .agg #[.bool c0, .bool c1, .bool c2, .bool c3]) (by simp [results, Tryd.results47, go_sem, q0, q1, q2, q3]) rfl ⟨⟨c0, c1, c2, c3, rfl, HQ.out.symm⟩, hbF⟩
end Go.Proofs.YtbaocehcnjdkkaaDoor

/- The walk of impl.PageOk. -/
namespace Go.Proofs.YtbaocehcnjdkkaaDoor
open Go.RowKit

theorem okP_out {n : Int} {vs : List SlotV} (h : inB n 0 1000000 = false) : okP n vs = false := by simp [okP, h]
theorem okP_four {n : Int} {ss : List SlotA} {c0 c1 c2 c3 : Bool} (h : inB n 0 1000000 = true) (hb : ss.map (fun s => slotB s.v) = [c0, c1, c2, c3]) : okP n (ss.map (·.v)) = (c0 && (c1 && (c2 && c3))) := by
  have e : (ss.map (·.v)).map slotB = [c0, c1, c2, c3] := by rw [List.map_map]; exact hb
  have e2 : ∀ vs : List SlotV, vs.all slotB = (vs.map slotB).all id := fun vs => by induction vs with
    | nil => rfl
    | cons v r ih => rw [List.all_cons, List.map_cons, List.all_cons, ← ih]; rfl
  rw [okP, h, Bool.and_true, e2, e]
  simp

theorem run_eq4 (c0 c1 c2 c3 : Bool) (w : World) : (Op.equalIn 10000 72 (.agg #[.bool c0, .bool c1, .bool c2, .bool c3]) (.agg #[.bool true, .bool true, .bool true, .bool true])).run Tryd.prog w = .ok (c0 && (c1 && (c2 && c3))) w := by
  cases c0 <;> cases c1 <;> cases c2 <;> cases c3 <;> kernel_rfl

set_option maxHeartbeats 1000000 in
set_option maxRecDepth 100000 in
theorem implPageOk_any (p : PageA) (h4 : p.ss.length = 4) (w : World) (hg : ErrT w) (hr : ReadsS w p.ss) (hl : Fit p.ss) :
    Calls Tryd.prog 13 #[.agg p.cells.toArray] w fun e w' => e = .returned (.bool (okP p.lsn (p.ss.map (·.v)))) ∧ Below w.heap.size w w' := by
  obtain ⟨W, hW, b0, b1, hbW, hsW⟩ := boxes2 w p.cells [.bool true, .bool true, .bool true, .bool true] 31 72
  have hc0 : ∀ w', Below W.heap.size W w' → w'.cell? ⟨w.heap.size, 0, none⟩ = some (.int .i64 p.lsn) := fun w' hh => (b0.below hh b0.lt).cell 0 _ rfl
  have hw0 := hc0 W (Below.refl _ _)
  cases hin : inB p.lsn 0 1000000 with
  | false =>
    have HF : Hid (okP p.lsn (p.ss.map (·.v)) = false) := okP_out hin
    have hz := inB_false hin
    clear hin hc0
    generalize okP p.lsn (p.ss.map (·.v)) = R at *
    generalize p.lsn = n at *
    rcases hz with h1 | ⟨h1, h2⟩
    · have h1' : decide ((0 : Int) ≤ n) = false := decide_eq_false (by omega)
      clear h1
      go_enter Tryd.func13, Tryd.ntmps13
      go_wp2_with fail
      rw [hW.out]
      go_quiet (fail)
      go_wp2
      go_ret
      exact ⟨ret_bool HF.out.symm, below_drewN hbW _⟩
    · have h1' : decide ((0 : Int) ≤ n) = true := decide_eq_true (by omega)
      have h2' : decide (n ≤ 1000000) = false := decide_eq_false (by omega)
      clear h1 h2
      go_enter Tryd.func13, Tryd.ntmps13
      go_wp2_with fail
      rw [hW.out]
      go_quiet (fail)
      go_wp2
      go_ret
      exact ⟨ret_bool HF.out.symm, below_drewN hbW _⟩
  | true =>
    obtain ⟨h1, h2⟩ := inB_true hin
    have h1' : (0 : Int) ≤ p.lsn := by omega
    have h2' : p.lsn ≤ 1000000 := by omega
    have HIN : Hid (_ = _) := hin
    have HRG : Hid (∀ w', Below W.heap.size W w' → w'.rangeAt w.heap.size 0 p.cells) := fun w' hh => Box.range [] p.cells [] (by simpa using b0.below hh b0.lt)
    have HRA : Hid (∀ w', Below W.heap.size W w' → w'.rangeAt (w.heap.size + 1) 0 [.bool true, .bool true, .bool true, .bool true]) := fun w' hh => Box.range [] [.bool true, .bool true, .bool true, .bool true] [] (by simpa using b1.below hh b1.lt)
    have HI : Hid ((Tryd.prog.info? 31).map (·.size) = some p.cells.length) := by rw [Hid, page_len p h4]; kernel_rfl
    clear hin h1 h2
    go_enter Tryd.func13, Tryd.ntmps13
    go_wp2_with fail
    rw [hW.out]
    refine wp_region_held_drew (S := fun w' => w'.cell? ⟨w.heap.size, 0, none⟩ = some (.int .i64 p.lsn) ∧ w'.rangeAt w.heap.size 0 p.cells ∧ w'.rangeAt (w.heap.size + 1) 0 [.bool true, .bool true, .bool true, .bool true]) (by kernel_rfl) ?_ (fun hHeld => ?_)
    · exact ⟨hc0 _ (Below.refl _ _).drew, HRG.out _ (Below.refl _ _).drew, HRA.out _ (Below.refl _ _).drew⟩
    have hd1 : decide ((0 : Int) ≤ p.lsn) = true := decide_eq_true h1'
    have hd2 : decide (p.lsn ≤ 1000000) = true := decide_eq_true h2'
    refine wpAnyH_take (i := 0) (v := .pointer (some ⟨w.heap.size, 0, none⟩)) rfl (by kernel_rfl) (by kernel_rfl) (by kernel_rfl) (fun _ _ _ h => h) (Or.inl ⟨by rfl, fun w' hw' => ?_⟩) hHeld ?_
    · go_simp
    go_simp
    refine wpAnyH_take (i := 1) (v := .int .i64 p.lsn) rfl (by kernel_rfl) (by kernel_rfl) (by kernel_rfl) (fun _ _ _ h => h) (Or.inl ⟨by rfl, fun w' hw' => ?_⟩) hHeld ?_
    · have q := hw'.1; go_simp
    go_simp
    refine wpAnyH_take (i := 2) (v := .bool true) rfl (by kernel_rfl) (by kernel_rfl) (by kernel_rfl) (fun _ _ _ h => h) (Or.inl ⟨by rfl, fun w' hw' => ?_⟩) hHeld ?_
    · go_simp
    go_simp
    refine wpAnyH_take (i := 3) (v := .bool true) rfl (by kernel_rfl) (by kernel_rfl) (by kernel_rfl) (fun _ _ _ h => h) (Or.inl ⟨by rfl, fun w' hw' => ?_⟩) hHeld ?_
    · go_simp
    go_simp
    refine wpAnyH_take (i := 4) (v := .pointer (some ⟨w.heap.size, 0, none⟩)) rfl (by kernel_rfl) (by kernel_rfl) (by kernel_rfl) (fun _ _ _ h => h) (Or.inl ⟨by rfl, fun w' hw' => ?_⟩) hHeld ?_
    · go_simp
    go_simp
    refine wpAnyH_take (i := 5) (v := .int .i64 p.lsn) rfl (by kernel_rfl) (by kernel_rfl) (by kernel_rfl) (fun _ _ _ h => h) (Or.inl ⟨by rfl, fun w' hw' => ?_⟩) hHeld ?_
    · have q := hw'.1; go_simp
    go_simp
    refine wpAnyH_take (i := 6) (v := .bool true) rfl (by kernel_rfl) (by kernel_rfl) (by kernel_rfl) (fun _ _ _ h => h) (Or.inl ⟨by rfl, fun w' hw' => ?_⟩) hHeld ?_
    · go_simp
    go_simp
    refine wpAnyH_take (i := 7) (v := .bool true) rfl (by kernel_rfl) (by kernel_rfl) (by kernel_rfl) (fun _ _ _ h => h) (Or.inl ⟨by rfl, fun w' hw' => ?_⟩) hHeld ?_
    · go_simp
    go_simp
    refine wpAnyH_take (i := 8) (v := .bool true) rfl (by kernel_rfl) (by kernel_rfl) (by kernel_rfl) (fun _ _ _ h => h) (Or.inl ⟨by rfl, fun w' hw' => ?_⟩) hHeld ?_
    · go_simp
    go_simp
    refine wpAnyH_take (i := 9) rfl (by kernel_rfl) (by kernel_rfl) (by kernel_rfl) (fun _ _ _ h => h) (yieldsIf_load_mid (by rfl) _ _ rfl _ _ rfl p.cells _ (fun _ h => h.2.1) Tryd.underlying31 rfl HI.out) hHeld ?_
    go_simp
    refine wpAnyH_take (i := 11) rfl (by kernel_rfl) (by kernel_rfl) (by kernel_rfl) (fun _ _ _ h => h) (yieldsIf_load_mid (by rfl) _ _ rfl _ _ rfl [.bool true, .bool true, .bool true, .bool true] _ (fun _ h => h.2.2) Tryd.underlying72 rfl (by kernel_rfl)) hHeld ?_
    go_simp
    refine wpAnyH_ready (rs := [10]) (by kernel_rfl) (by simp) ?_
    refine AllReadyH.cons rfl (fun K hK => ?_) AllReadyH.nil
    go_simp
    refine (markSlots_ok p h4 _ (hg.keep hbW.drew) (hr.below hbW.drew) hl).mono ?_
    rintro e w2 ⟨⟨c0, c1, c2, c3, rfl, hcs⟩, hb2⟩
    have B2 : Below W.heap.size W w2 := ((Below.refl _ _).drew).trans hb2
    have HR : Hid (_ = _) := okP_four HIN.out hcs
    clear hcs
    refine hK.out _ _ ⟨hc0 _ B2, HRG.out _ B2, HRA.out _ B2⟩ (fun hHeld => ?_)
    clear hK K
    refine wpAnyH_take (i := 12) (v := .bool (c0 && (c1 && (c2 && c3)))) rfl (by kernel_rfl) (by kernel_rfl) (by kernel_rfl) (fun _ _ _ h => h) (Or.inl ⟨by rfl, fun w' hw' => ?_⟩) hHeld ?_
    · have q := run_eq4 c0 c1 c2 c3 w'; go_simp
    go_simp
    generalize (c0 && (c1 && (c2 && c3))) = D at *
    refine wpAnyH_take (i := 13) (v := .bool D) rfl (by kernel_rfl) (by kernel_rfl) (by kernel_rfl) (fun _ _ _ h => h) (Or.inl ⟨by rfl, fun w' hw' => ?_⟩) hHeld ?_
    · go_simp
    go_simp
    refine wpAnyH_take (i := 14) (v := .bool D) rfl (by kernel_rfl) (by kernel_rfl) (by kernel_rfl) (fun _ _ _ h => h) (Or.inl ⟨by rfl, fun w' hw' => ?_⟩) hHeld ?_
    · go_simp
    go_simp
    refine wpAnyH_done (by kernel_rfl) ?_ _
    go_wp2
    go_ret
    exact ⟨ret_bool HR.out.symm, hbW.trans (B2.mono hbW.size)⟩
end Go.Proofs.YtbaocehcnjdkkaaDoor

/- What came in, read: a slice of numbers, an object. -/
namespace Go.Proofs.YtbaocehcnjdkkaaDoor
open Go.ChangeShapes Go.WideShapes Go.ChangeAt Go.RowKit

def InI64 (z : Int) : Prop := -9223372036854775808 ≤ z ∧ z ≤ 9223372036854775807
theorem wf_i64 {z : Int} (h : (Lit.int .i64 z).wf = true) : InI64 z := by
  simp [Lit.wf, IntKind.min, IntKind.max, IntKind.signed, IntKind.bits] at h
  unfold InI64; omega

theorem some_at {α : Type} (xs : List α) (i : Nat) (h : i < xs.length) : ∃ y, xs[i]? = some y := ⟨_, List.getElem?_eq_getElem h⟩

section
variable {H : Type} {enc : TypeId × Value → H} {w : World} {base : Nat} {spare : Nat → Bool} {held : Bool}

theorem trod_ints {fuel : Nat} {cs : List Value} {x : DataW H × List MemPlace} (h : DataW.trod enc Tryd.prog w base spare held fuel 24 cs = some x) :
    ∃ (a : Option Addr) (c : Nat) (ns : List Int), cs = [.slice a ns.length c] ∧ ReadsI w a ns ∧ (a = none → c = 0) ∧ ns.length ≤ maxLen ∧ ∀ z ∈ ns, InI64 z := by
  rcases open_ints Tryd.underlying24 Tryd.underlying3 (by kernel_rfl) h with ⟨rfl, _⟩ | ⟨a, len, cap, zs, rfl, _, hl, hm, hz, _, hcell, hwf⟩
  · exact ⟨none, 0, [], rfl, fun h => absurd rfl h, fun _ => rfl, by simp, by simp⟩
  · have hlz : len ≤ zs.length := by rw [hz]; split <;> omega
    refine ⟨some a, cap, zs.take len, by simp; omega, ?_, (fun h => by cases h), by simp; omega, fun z hzz => wf_i64 (hwf z (List.mem_of_mem_take hzz))⟩
    intro hne
    have hpos := List.length_pos_iff.2 hne
    simp at hpos
    obtain ⟨b, off, spot⟩ := a
    have hc0 := hcell 0 (by omega)
    have hspot : spot = none := by simpa [Addr.add] using World.cell?_spot hc0
    subst hspot
    refine ⟨b, off, rfl, fun i hi => ?_⟩
    have hi' : i < len := by simp at hi; omega
    have := hcell i (by omega)
    have e : (List.take len zs).getD i 0 = zs.getD i 0 := by simp [List.getD, hi']
    rw [e, ← Addr_add]
    exact this

theorem trod_num {fuel : Nat} {cs : List Value} {x : DataW H × List MemPlace} (h : DataW.trod enc Tryd.prog w base spare held fuel 3 cs = some x) : ∃ n : Int, cs = [.int .i64 n] ∧ InI64 n := by
  obtain ⟨n, rfl, _, hw⟩ := DataW.trod_int Tryd.underlying3 h
  exact ⟨n, rfl, wf_i64 hw⟩

theorem Tryd.cellsI : Tryd.prog.cellsOf 3 = 1 := by kernel_rfl
theorem Tryd.cellsIs : Tryd.prog.cellsOf 24 = 1 := by kernel_rfl
theorem Tryd.cellsO : Tryd.prog.cellsOf 42 = 3 := by kernel_rfl

set_option maxRecDepth 100000 in
theorem trod_obj {fuel : Nat} {cs : List Value} {x : DataW H × List MemPlace} (h : DataW.trod enc Tryd.prog w base spare held fuel 42 cs = some x) :
    ∃ (o : ObjV) (aI : Option Addr) (cI : Nat) (aR : Option Addr) (cR : Nat), cs = [.int .i64 o.kind, .slice aI o.ints.length cI, .slice aR o.refs.length cR] ∧ ReadsO w aI cI aR cR o ∧ o.ints.length ≤ maxLen ∧ o.refs.length ≤ maxLen ∧ InI64 o.kind ∧ (∀ z ∈ o.ints, InI64 z) ∧ (∀ z ∈ o.refs, InI64 z) := by
  obtain ⟨xs, n, _, _, hlen, hxl, hf⟩ := DataW.trod_struct Tryd.underlying42 h
  rw [Tryd.cellsO] at hlen
  match cs, hlen with
  | [v0, v1, v2], _ =>
    have f0 := hf 0 _ rfl
    have f1 := hf 1 _ rfl
    have f2 := hf 2 _ rfl
    obtain ⟨y0, hx0⟩ := some_at xs 0 (by rw [hxl]; decide)
    obtain ⟨y1, hx1⟩ := some_at xs 1 (by rw [hxl]; decide)
    obtain ⟨y2, hx2⟩ := some_at xs 2 (by rw [hxl]; decide)
    rw [hx0] at f0
    rw [hx1] at f1
    rw [hx2] at f2
    simp only [List.getElem_toArray, List.getElem_cons_zero, List.getElem_cons_succ, Tryd.cellsI, Tryd.cellsIs, List.drop, List.take] at f0 f1 f2
    obtain ⟨k, e0, wk⟩ := trod_num f0
    obtain ⟨aI, cI, ints, e1, hI, nI, lI, wI⟩ := trod_ints f1
    obtain ⟨aR, cR, refs, e2, hR, nR, lR, wR⟩ := trod_ints f2
    simp only [List.cons.injEq, and_true] at e0 e1 e2
    subst e0 e1 e2
    exact ⟨⟨k, ints, refs⟩, aI, cI, aR, cR, rfl, ⟨hI, hR, nI, nR⟩, lI, lR, wk, wI, wR⟩

set_option maxRecDepth 100000 in
/-- An object that came in as an argument. -/
theorem open_obj {b0 : Nat} {v : Value} {d : DataW H} {ps : List MemPlace} (hval : Value.okWide Tryd.prog w .any b0 42 v) (h : DataW.Trod enc Tryd.prog w base spare held 42 v d ps) :
    ∃ (o : ObjV) (aI : Option Addr) (cI : Nat) (aR : Option Addr) (cR : Nat), v = .agg #[.int .i64 o.kind, .slice aI o.ints.length cI, .slice aR o.refs.length cR] ∧ ReadsO w aI cI aR cR o ∧ o.ints.length ≤ maxLen ∧ o.refs.length ≤ maxLen ∧ InI64 o.kind ∧ (∀ z ∈ o.ints, InI64 z) ∧ (∀ z ∈ o.refs, InI64 z) := by
  obtain ⟨cs, rfl, hcs⟩ := okWide_struct Tryd.underlying42 hval
  obtain ⟨fuel, hf⟩ := h
  have e : (Value.agg cs).cells.toList = cs.toList := rfl
  rw [e] at hf
  obtain ⟨o, aI, cI, aR, cR, hc, rest⟩ := trod_obj hf
  refine ⟨o, aI, cI, aR, cR, ?_, rest⟩
  congr 1
  apply Array.toList_inj.1
  rw [hc]
end
end Go.Proofs.YtbaocehcnjdkkaaDoor

/- What came in, read: a slot, a page. -/
namespace Go.Proofs.YtbaocehcnjdkkaaDoor
open Go.ChangeShapes Go.WideShapes Go.ChangeAt Go.RowKit

/-- A slot as it came in: its lists are read, its numbers are 64-bit numbers. -/
structure InSlot (w : World) (s : SlotA) : Prop where
  reads : s.reads w
  lI : s.v.o.ints.length ≤ maxLen
  lR : s.v.o.refs.length ≤ maxLen
  kind : InI64 s.v.o.kind
  ints : ∀ z ∈ s.v.o.ints, InI64 z
  refs : ∀ z ∈ s.v.o.refs, InI64 z

section
variable {H : Type} {enc : TypeId × Value → H} {w : World} {base : Nat} {spare : Nat → Bool} {held : Bool}

theorem Tryd.cellsB : Tryd.prog.cellsOf 4 = 1 := by kernel_rfl
theorem Tryd.cellsSl : Tryd.prog.cellsOf 44 = 4 := by kernel_rfl
theorem Tryd.cellsSl4 : Tryd.prog.cellsOf 45 = 16 := by kernel_rfl
theorem Tryd.cellsPg : Tryd.prog.cellsOf 47 = 17 := by kernel_rfl

set_option maxRecDepth 100000 in
theorem trod_slot {fuel : Nat} {cs : List Value} {x : DataW H × List MemPlace} (h : DataW.trod enc Tryd.prog w base spare held fuel 44 cs = some x) :
    ∃ s : SlotA, cs = s.cells ∧ InSlot w s := by
  obtain ⟨xs, n, _, _, hlen, hxl, hf⟩ := DataW.trod_struct Tryd.underlying44 h
  rw [Tryd.cellsSl] at hlen
  match cs, hlen with
  | [v0, v1, v2, v3], _ =>
    have f0 := hf 0 _ rfl
    have f1 := hf 1 _ rfl
    obtain ⟨y0, hx0⟩ := some_at xs 0 (by rw [hxl]; decide)
    obtain ⟨y1, hx1⟩ := some_at xs 1 (by rw [hxl]; decide)
    rw [hx0] at f0
    rw [hx1] at f1
    simp only [List.getElem_toArray, List.getElem_cons_zero, List.getElem_cons_succ, Tryd.cellsB, Tryd.cellsO, List.drop, List.take] at f0 f1
    obtain ⟨b, e0, _⟩ := DataW.trod_bool Tryd.underlying4 f0
    obtain ⟨o, aI, cI, aR, cR, e1, hr, lI, lR, wk, wI, wR⟩ := trod_obj f1
    simp only [List.cons.injEq, and_true] at e0 e1
    obtain ⟨rfl, rfl, rfl⟩ := e1
    subst e0
    exact ⟨⟨⟨b, o⟩, aI, cI, aR, cR⟩, rfl, hr, lI, lR, wk, wI, wR⟩

theorem four_of (cs : List Value) (h : cs.length = 16) (f : ∀ i, i < 4 → ∃ s : SlotA, (cs.drop (i * 4)).take 4 = s.cells ∧ InSlot w s) : ∃ ss : List SlotA, ss.length = 4 ∧ cs = cellsS ss ∧ ∀ s ∈ ss, InSlot w s := by
  obtain ⟨s0, e0, h0⟩ := f 0 (by omega)
  obtain ⟨s1, e1, h1⟩ := f 1 (by omega)
  obtain ⟨s2, e2, h2⟩ := f 2 (by omega)
  obtain ⟨s3, e3, h3⟩ := f 3 (by omega)
  refine ⟨[s0, s1, s2, s3], rfl, ?_, ?_⟩
  · simp only [cellsS, List.flatMap_cons, List.flatMap_nil, List.append_nil, ← e0, ← e1, ← e2, ← e3]
    simp only [Nat.zero_mul, Nat.one_mul, List.drop_zero]
    have d : ∀ (l : List Value) (k : Nat), l.drop k = (l.drop k).take 4 ++ l.drop (k + 4) := fun l k => by rw [← List.drop_drop, List.take_append_drop]
    have a0 := d cs 0
    have a1 := d cs 4
    have a2 := d cs 8
    have a3 := d cs 12
    rw [List.drop_zero] at a0
    have a4 : cs.drop (12 + 4) = [] := List.drop_eq_nil_of_le (by omega)
    rw [a4, List.append_nil] at a3
    simp only [show 0 + 4 = 4 from rfl, show 4 + 4 = 8 from rfl, show 8 + 4 = 12 from rfl, show 2 * 4 = 8 from rfl, show 3 * 4 = 12 from rfl] at *
    conv => lhs; rw [a0, a1, a2, a3]
  · intro s hs
    simp only [List.mem_cons, List.not_mem_nil, or_false] at hs
    rcases hs with rfl | rfl | rfl | rfl <;> assumption

set_option maxRecDepth 100000 in
theorem trod_page {fuel : Nat} {cs : List Value} {x : DataW H × List MemPlace} (h : DataW.trod enc Tryd.prog w base spare held fuel 47 cs = some x) :
    ∃ p : PageA, cs = p.cells ∧ p.ss.length = 4 ∧ InI64 p.lsn ∧ ∀ s ∈ p.ss, InSlot w s := by
  obtain ⟨xs, n, _, _, hlen, hxl, hf⟩ := DataW.trod_struct Tryd.underlying47 h
  rw [Tryd.cellsPg] at hlen
  obtain ⟨v0, r, rfl⟩ : ∃ v0 r, cs = v0 :: r := by
    cases cs with
    | nil => simp at hlen
    | cons v r => exact ⟨v, r, rfl⟩
  have hr16 : r.length = 16 := by simpa using hlen
  have f0 := hf 0 _ rfl
  have f1 := hf 1 _ rfl
  obtain ⟨y0, hx0⟩ := some_at xs 0 (by rw [hxl]; decide)
  obtain ⟨y1, hx1⟩ := some_at xs 1 (by rw [hxl]; decide)
  rw [hx0] at f0
  rw [hx1] at f1
  simp only [List.getElem_toArray, List.getElem_cons_zero, List.getElem_cons_succ, Tryd.cellsI, Tryd.cellsSl4, List.drop_zero, List.drop_succ_cons, List.take_succ_cons, List.take_zero] at f0 f1
  rw [List.take_of_length_le (by omega)] at f1
  obtain ⟨k, e0, wk⟩ := trod_num f0
  obtain ⟨ys, m, _, _, _, hyl, hg⟩ := DataW.trod_array Tryd.underlying45 f1
  obtain ⟨ss, h4, e1, hs⟩ := four_of (w := w) r hr16 (fun i hi => by
    have g := hg i hi
    obtain ⟨y, hy⟩ := some_at ys i (by omega)
    rw [hy, Tryd.cellsSl] at g
    exact trod_slot g)
  simp only [List.cons.injEq, and_true] at e0
  subst e0 e1
  exact ⟨⟨k, ss⟩, rfl, h4, wk, hs⟩

set_option maxRecDepth 100000 in
/-- A page that came in as an argument. -/
theorem open_page {b0 : Nat} {v : Value} {d : DataW H} {ps : List MemPlace} (hval : Value.okWide Tryd.prog w .any b0 47 v) (h : DataW.Trod enc Tryd.prog w base spare held 47 v d ps) :
    ∃ p : PageA, v = .agg p.cells.toArray ∧ p.ss.length = 4 ∧ InI64 p.lsn ∧ ∀ s ∈ p.ss, InSlot w s := by
  obtain ⟨cs, rfl, hcs⟩ := okWide_struct Tryd.underlying47 hval
  obtain ⟨fuel, hf⟩ := h
  have e : (Value.agg cs).cells.toList = cs.toList := rfl
  rw [e] at hf
  obtain ⟨p, hc, rest⟩ := trod_page hf
  refine ⟨p, ?_, rest⟩
  congr 1
  apply Array.toList_inj.1
  rw [hc]

set_option maxRecDepth 100000 in
/-- A slot that came in as an argument. -/
theorem open_slot {b0 : Nat} {v : Value} {d : DataW H} {ps : List MemPlace} (hval : Value.okWide Tryd.prog w .any b0 44 v) (h : DataW.Trod enc Tryd.prog w base spare held 44 v d ps) :
    ∃ s : SlotA, v = .agg s.cells.toArray ∧ InSlot w s := by
  obtain ⟨cs, rfl, hcs⟩ := okWide_struct Tryd.underlying44 hval
  obtain ⟨fuel, hf⟩ := h
  have e : (Value.agg cs).cells.toList = cs.toList := rfl
  rw [e] at hf
  obtain ⟨s, hc, rest⟩ := trod_slot hf
  refine ⟨s, ?_, rest⟩
  congr 1
  apply Array.toList_inj.1
  rw [hc]
end
end Go.Proofs.YtbaocehcnjdkkaaDoor

/- What the laws of pages share. -/
namespace Go.Proofs.YtbaocehcnjdkkaaDoor
open Go.RowKit

theorem map_len4 {ss ts : List SlotA} (h : ts.map (·.v) = ss.map (·.v)) (h4 : ss.length = 4) : ts.length = 4 := by
  have := congrArg List.length h
  simp only [List.length_map] at this
  omega
theorem small_of {ss ts : List SlotA} (h : ts.map (·.v) = ss.map (·.v)) (hl : ∀ s ∈ ss, s.v.o.ints.length ≤ 1048576 ∧ s.v.o.refs.length ≤ 1048576) : ∀ s ∈ ts, s.v.o.ints.length ≤ 1048576 ∧ s.v.o.refs.length ≤ 1048576 := by
  intro t ht
  have : t.v ∈ ss.map (·.v) := by rw [← h]; exact List.mem_map.2 ⟨t, ht, rfl⟩
  obtain ⟨s, hs, e⟩ := List.mem_map.1 this
  rw [← e]
  exact hl s hs
theorem wide_of {ss : List SlotA} (hl : ∀ s ∈ ss, s.v.o.ints.length ≤ 1048576 ∧ s.v.o.refs.length ≤ 1048576) : ∀ s ∈ ss, s.v.o.ints.length ≤ 1099511627776 ∧ s.v.o.refs.length ≤ 1099511627776 := fun s hs => by have := hl s hs; omega

end Go.Proofs.YtbaocehcnjdkkaaDoor

/- The walk of laws.FnExactPageOk. -/
namespace Go.Proofs.YtbaocehcnjdkkaaDoor
open Go.RowKit

set_option maxHeartbeats 2000000 in
set_option maxRecDepth 100000 in
theorem lawPageOk_walk (p : PageA) (h4 : p.ss.length = 4) (w : World) (hg : ErrT w) (hin : ∀ s ∈ p.ss, InSlot w s) :
    Calls Tryd.prog 4 #[.agg p.cells.toArray] w fun e w' => e = .returned (.bool true) ∧ Below w.heap.size w w' := by
  have hsm : Small p.ss := fun s hs => by have h1 := (hin s hs).lI; have h2 := (hin s hs).lR; simp only [maxLen] at h1 h2; omega
  have hrd : ReadsS w p.ss := fun s hs => (hin s hs).reads
  obtain ⟨W, hW, b0, hbW, hsW⟩ := boxes1 w p.cells 47
  have HRG : Hid (∀ w', Below W.heap.size W w' → w'.rangeAt w.heap.size 0 p.cells) := fun w' hh => Box.range [] p.cells [] (by simpa using b0.below hh b0.lt)
  have HI : Hid ((Tryd.prog.info? 47).map (·.size) = some p.cells.length) := by rw [Hid, page_len p h4]; kernel_rfl
  go_enter Tryd.func4, Tryd.ntmps4
  go_wp2_with (first | (guard_target = wpList _ _ _ (Oper.mk (some 7) _ _ _ _ _ :: _) _ _; refine wpList_load_mid rfl 47 (.tmp 1) rfl w.heap.size 0 rfl p.cells _ (by rw [hW.out]; exact HRG.out _ (Below.refl _ _)) Tryd.underlying47 rfl HI.out ?_) | fail)
  rw [hW.out]
  clear hW hsW
  refine (szPage_any p h4 1048576 W hsm (by omega)).mono ?_
  rintro e w1 ⟨z, rfl, hz, hb1⟩
  rcases hz with hneg | ⟨hz0, _, hl⟩
  · go_wp2
    go_ret
    exact ⟨rfl, hbW.trans (hb1.mono hbW.size)⟩
  have hzn : ¬ z < 0 := by omega
  have hr1 := hrd.below (hbW.trans (hb1.mono hbW.size))
  go_wp2_with (first | (guard_target = wpList _ _ _ (Oper.mk (some 12) _ _ _ _ _ :: _) _ _; refine wpList_load_mid rfl 47 (.tmp 1) rfl w.heap.size 0 rfl p.cells _ (HRG.out _ hb1) Tryd.underlying47 rfl HI.out ?_) | fail)
  refine (toPage_own p h4 w1 hr1 (wide_of hl)).mono ?_
  rintro e w2 ⟨ts, rfl, hv2, ho2, hb2⟩
  have B2 : Below W.heap.size W w2 := hb1.trans (hb2.mono hb1.size)
  go_wp2_with fail
  refine (specPageOk_any ⟨p.lsn, ts⟩ (map_len4 hv2.out h4) w2 ho2.reads (wide_of (small_of hv2.out hl))).mono ?_
  simp only [hv2.out]
  clear hv2 ho2 hb2
  rintro e w3 ⟨rfl, hb3⟩
  have B3 : Below W.heap.size W w3 := B2.trans (hb3.mono B2.size)
  clear B2 hb3
  have hr3 := hrd.below (hbW.trans (B3.mono hbW.size))
  go_wp2_with (first | (guard_target = wpList _ _ _ (Oper.mk (some 15) _ _ _ _ _ :: _) _ _; refine wpList_load_mid rfl 47 (.tmp 1) rfl w.heap.size 0 rfl p.cells _ (HRG.out _ B3) Tryd.underlying47 rfl HI.out ?_) | fail)
  refine (toPage_own p h4 w3 hr3 (wide_of hl)).mono ?_
  rintro e w4 ⟨us, rfl, hv4, ho4, hb4⟩
  have B4 : Below W.heap.size W w4 := B3.trans (hb4.mono B3.size)
  have hul := map_len4 hv4.out h4
  have huS := small_of hv4.out hl
  obtain ⟨W5, hW5, b5, hbW5, hsW5⟩ := boxes1 w4 [.int .i64 0, .bool false, .int .i64 0, .slice none 0 0, .slice none 0 0, .bool false, .int .i64 0, .slice none 0 0, .slice none 0 0, .bool false, .int .i64 0, .slice none 0 0, .slice none 0 0, .bool false, .int .i64 0, .slice none 0 0, .slice none 0 0] 31
  have b5' : Box W5 w4.heap.size ([] ++ ((.int .i64 0 :: cellsS zero4) ++ [])) 31 := b5
  generalize hq : (⟨p.lsn, us⟩ : PageA) = q at *
  have hq4 : q.ss.length = 4 := by rw [← hq]; exact hul
  have hqm : q.ss.map (·.v) = p.ss.map (·.v) := by rw [← hq]; exact hv4.out
  have hqn : q.lsn = p.lsn := by rw [← hq]
  have hqo : OwnS w4 w3.heap.size w4.heap.size q.ss := by rw [← hq]; exact ho4
  have hqS : ∀ s ∈ q.ss, s.v.o.ints.length ≤ 1048576 ∧ s.v.o.refs.length ≤ 1048576 := by rw [← hq]; exact huS
  clear hq hul huS ho4 hv4 b5
  obtain ⟨W6, hW6, b6, hw6, hs6⟩ := range_fill [] (.int .i64 0 :: cellsS zero4) q.cells [] b5' (by rw [page_len q hq4]; rfl)
  have HI6 : Hid ((Tryd.prog.info? 31).map (·.size) = some q.cells.length) := by rw [Hid, page_len q hq4]; kernel_rfl
  have HT6 : Hid (W5.there w4.heap.size 0 q.cells.toArray.size) := b5'.there 0 _ (by rw [List.size_toArray, page_len q hq4]; decide)
  have B6 : Below W.heap.size W W6 := by
    have h1 := hb1.size
    have h4 := B4.size
    exact (B4.trans (hbW5.mono B4.size)).trans (hw6.below (by omega) (by omega))
  have hs4 := hbW5.size
  have hqo6 : OwnS W6 w3.heap.size w4.heap.size q.ss := (hqo.below hbW5).within hw6 (.inl (Nat.le_refl _))
  have HR6 : Hid (∀ w', Below W6.heap.size W6 w' → w'.rangeAt w4.heap.size 0 q.cells) := fun w' hh => Box.range [] q.cells [] (by simpa using b6.below hh b6.lt)
  have HS : Hid (W5.setCells w4.heap.size 0 q.cells = W6) := hW6.out
  have HO : Hid (_) := all_oneCell_toArray (oneP q)
  clear hW6 b6 hw6 hs6 b5' hqo hsW5 hbW5
  go_wp2_with (first | (guard_target = wpList _ _ _ (Oper.mk none (Op.store _ (Operand.tmp 5) _) _ _ _ _ :: _) _ _; refine wpList_store_mid rfl 31 (.tmp 5) (.tmp 16) rfl w4.heap.size 0 q.cells.toArray rfl rfl (by rw [hW5.out]; exact HT6.out) (by rw [List.size_toArray]; exact HI6.out) HO.out ?_) | (guard_target = wpList _ _ _ (Oper.mk (some 17) _ _ _ _ _ :: _) _ _; refine wpList_load_mid rfl 31 (.tmp 5) rfl w4.heap.size 0 rfl q.cells _ (by rw [hW5.out, HS.out]; exact HR6.out _ (Below.refl _ _)) Tryd.underlying31 rfl HI6.out ?_) | fail)
  rw [hW5.out, HS.out]
  refine (implPageOk_any q hq4 W6 (hg.keep (hbW.trans (B6.mono hbW.size))) hqo6.reads (wide_of hqS)).mono ?_
  rw [hqm, hqn]
  generalize okP p.lsn (p.ss.map (·.v)) = R at *
  rintro e w7 ⟨rfl, hb7⟩
  have B7 : Below W.heap.size W w7 := B6.trans (hb7.mono B6.size)
  have hr7 := hrd.below (hbW.trans (B7.mono hbW.size))
  have HQ : Hid (_ ∧ _) := ⟨hqm, hqn⟩
  have HD : Hid (_ ∧ _ ∧ _) := ⟨hr7, (hqo6.below hb7).reads, hl⟩
  have hu1 := Tryd.underlying47
  have hu2 := Tryd.underlying31
  have hi1 := HI.out
  have hi2 := HI6.out
  have hl1 : p.cells.length = 17 := page_len p h4
  have hl2 : q.cells.length = 17 := page_len q hq4
  have ho1 := oneP p
  have ho2' := oneP q
  have hh : w7.rangeAt w.heap.size 0 p.cells ∧ w7.rangeAt w4.heap.size 0 q.cells := ⟨HRG.out _ B7, HR6.out _ hb7⟩
  clear hqm hqn hr7 hqo6 hin hsm hrd HT6 HO HS hW5 hs4 hl
  go_wp2_with fail
  refine wp_region_held_drew (S := fun w' => w'.rangeAt w.heap.size 0 p.cells ∧ w'.rangeAt w4.heap.size 0 q.cells) (by kernel_rfl) ?_ (fun hHeld => ?_)
  · exact ⟨HRG.out _ B7.drew, HR6.out _ hb7.drew⟩
  refine wpAnyH_take (i := 0) rfl (by kernel_rfl) (by kernel_rfl) (by kernel_rfl) (fun _ _ _ h => h) (yieldsIf_load_mid (by rfl) _ _ rfl _ _ rfl q.cells _ (fun _ h => h.2) hu2 rfl hi2) hHeld ?_
  refine wpAnyH_take (i := 1) rfl (by kernel_rfl) (by kernel_rfl) (by kernel_rfl) (fun _ _ _ h => h) (yieldsIf_load_mid (by rfl) _ _ rfl _ _ rfl p.cells _ (fun _ h => h.1) hu1 rfl hi1) hHeld ?_
  refine wpAnyH_ready (rs := [2]) (by kernel_rfl) (by simp) ?_
  refine AllReadyH.cons rfl (fun K hK => ?_) AllReadyH.nil
  go_simp
  refine (toPage_own p h4 _ (HD.out.1.below (Below.refl _ _).drew) (wide_of HD.out.2.2)).mono ?_
  rintro e w8 ⟨vs, rfl, hv8, ho8, hb8⟩
  have C8 : Below W.heap.size W w8 := (B7.drew).trans (hb8.mono B7.size)
  have D8 : Below W6.heap.size W6 w8 := (hb7.drew).trans (hb8.mono hb7.size)
  have E8 : Below w7.heap.size w7 w8 := ((Below.refl _ _).drew).trans hb8
  refine hK.out _ _ ⟨HRG.out _ C8, HR6.out _ D8⟩ (fun hHeld => ?_)
  clear hK K
  refine wpAnyH_ready (rs := [3]) (by kernel_rfl) (by simp) ?_
  refine AllReadyH.cons rfl (fun K hK => ?_) AllReadyH.nil
  go_simp
  obtain ⟨n, qs⟩ := q
  obtain ⟨hqm, hqn⟩ := HQ.out
  simp only at hqm hqn
  subst hqn
  refine (eqPage_same p.lsn qs vs hq4 (by rw [hqm]; exact hv8.out) w8 (HD.out.2.1.below E8) ho8.reads (wide_of hqS)).mono ?_
  rintro e w9 ⟨rfl, hb9⟩
  have C9 : Below W.heap.size W w9 := C8.trans (hb9.mono C8.size)
  have D9 : Below W6.heap.size W6 w9 := D8.trans (hb9.mono D8.size)
  refine hK.out _ _ ⟨HRG.out _ C9, HR6.out _ D9⟩ (fun hHeld => ?_)
  clear hK K
  refine wpAnyH_take (i := 4) (v := .bool false) rfl (by kernel_rfl) (by kernel_rfl) (by kernel_rfl) (fun _ _ _ h => h) (Or.inl ⟨by rfl, ?_⟩) hHeld ?_
  · intro w' _; go_simp
  refine wpAnyH_done (by kernel_rfl) ?_ _
  go_wp2
  go_ret
  exact ⟨rfl, hbW.trans (C9.mono hbW.size)⟩
end Go.Proofs.YtbaocehcnjdkkaaDoor

/- What the row's condition on errors.errorType gives a walk; a world that meets it. -/
namespace Go.Proofs.YtbaocehcnjdkkaaDoor
open Go.ChangeShapes Go.WideShapes Go.RowKit

theorem Tryd.et : Tryd.prog.globalNamed "errors.errorType" = some 0 := by kernel_rfl
theorem Tryd.rt : (Tryd.prog.cutTypes.find? (·.1 == "internal/reflectlite.rtype")).map (·.2) = some 154 := by kernel_rfl
theorem Tryd.oneRow : ((List.range 196).filter fun t => Tryd.prog.rowNamed t [101, 114, 114, 111, 114]) = [123] := by kernel_rfl
theorem Tryd.typesSize : Tryd.prog.types.size = 196 := by kernel_rfl

theorem errT_of_handles {W : World} {laid : List (String × DataW Unit)} (hm : ("errors.errorType", Rows.laid_errors_errorType) ∈ laid) (h : handlesMet Tryd.prog laid W) : ErrT W := by
  obtain ⟨name, u, ty, e1, e2, e3, e4, e5⟩ := h _ hm
  have en : name = [101, 114, 114, 111, 114] := (Option.some.inj e1).symm
  subst en
  obtain rfl := Option.some.inj (Tryd.rt.symm.trans e2)
  have hm : ty ∈ (List.range 196).filter fun t => Tryd.prog.rowNamed t [101, 114, 114, 111, 114] := List.mem_filter.2 ⟨List.mem_range.2 (by rw [← Tryd.typesSize]; exact e3), e4⟩
  rw [Tryd.oneRow] at hm
  obtain rfl := List.mem_singleton.1 hm
  have hh : typeHandle Tryd.prog 123 = .pointer (some ⟨1, 123, none⟩) := by kernel_rfl
  rw [hh] at e5
  unfold ErrT
  simpa using World.var?_cell Tryd.et e5 0

/-- The one listed variable. -/
def laid1 : List (String × DataW Unit) := [("errors.errorType", Rows.laid_errors_errorType)]
theorem errT_of_laid1 {W : World} (h : laidMetH Tryd.prog laid1 W) : ErrT W := by
  have h' : laidMet Tryd.prog [] W ∧ handlesMet Tryd.prog laid1 W := h
  exact errT_of_handles (List.mem_singleton.2 rfl) h'.2
end Go.Proofs.YtbaocehcnjdkkaaDoor
