/- Several texts in one, in their order. -/
import Derived.Test.YtbaocehcnjdkkaaDoorProg
import Derived.Test.YtbaocehcnjdkkaaDoorPart1
import Derived.LaidEql
import Derived.Stop.Asserts
import Derived.RowKitTokens
import Derived.Test.YtbaocehcnjdkkaaDoorPart4
import Derived.Test.YtbaocehcnjdkkaaDoorPart5
import Derived.Deep.MidRow
import Derived.Deep.RegionHeld3
/- errors.As at a noObject: the walks of errors.As and of impl.isNoObject. -/
namespace Go.Proofs.YtbaocehcnjdkkaaDoor
open Go.RowKit Go.Extern.Stop Go.Stop Go.Extern

/-- The variable errors.errorType holds the handle of the type error. -/
def ErrT (w : World) : Prop := w.cell? ⟨0, 0, none⟩ = some (.iface 154 (.agg #[.pointer (some ⟨1, 123, none⟩)]))

theorem ErrT.lt {w : World} (h : ErrT w) : 0 < w.heap.size := by
  unfold ErrT at h
  rcases Nat.lt_or_ge 0 w.heap.size with h0 | h0
  · exact h0
  · simp [World.cell?, Array.getElem?_eq_none h0] at h
theorem ErrT.below {w w' : World} {n : Nat} (h : ErrT w) (hb : Below n w w') (hn : 0 < n) : ErrT w' := by
  unfold ErrT at h ⊢
  rw [hb.cell (p := ⟨0, 0, none⟩) hn]
  exact h
theorem ErrT.keep {w w' : World} (h : ErrT w) (hb : Below w.heap.size w w') : ErrT w' := h.below hb h.lt

theorem Tryd.asValueOfP (t : Addr) (w : World) : (ReflectliteValue.unpack (.iface 133 (.pointer (some t)))).run Tryd.prog w
    = .ok (.agg #[.pointer (some ⟨1, 133, none⟩), .pointer (some ⟨w.heap.size, 0, none⟩), .int .u64 150]) (w.alloc (.cells #[.pointer (some t)] 133)) := by kernel_rfl
theorem Tryd.asTypeP (a : Addr) (w : World) : (ReflectliteValue.methodAny (ReflectliteValue.valueError "reflectlite.Value.Type" 0) (fun t _ _ _ => ReflectliteType.toType t) #[.agg #[.pointer (some ⟨1, 133, none⟩), .pointer (some a), .int .u64 150]]).run Tryd.prog w
    = .ok (.iface 154 (.agg #[.pointer (some ⟨1, 133, none⟩)])) w := by kernel_rfl
theorem Tryd.asMethodKind (h : Value) (w : World) : (Go.method 296 154 (.agg #[h]) "Kind").run Tryd.prog w = .ok (144, h) w := by kernel_rfl
theorem Tryd.asKindP (w : World) : ((ReflectliteType.abiMethod fun t => (fun a : Nat => Value.int IntKind.u8 (a : Int)) <$> Rtype.kind t) #[.pointer (some ⟨1, 133, none⟩)]).run Tryd.prog w = .ok (.int .u8 22) w := by kernel_rfl
theorem Tryd.asKindS (w : World) : ((ReflectliteType.abiMethod fun t => (fun a : Nat => Value.int IntKind.u8 (a : Int)) <$> Rtype.kind t) #[.pointer (some ⟨1, 131, none⟩)]).run Tryd.prog w = .ok (.int .u8 25) w := by kernel_rfl

theorem rlm (z : Sem Value) (f : TypeId → Addr → Nat → Nat → Sem Value) (v : Value) :
    ReflectliteValue.method z f #[v] = (do match ← ReflectliteValue.parts v with | none => z | some (t, a, fl) => f t a fl (fl % 32)) := rfl
theorem Tryd.asPartsP (a : Addr) (w : World) : (ReflectliteValue.parts (.agg #[.pointer (some ⟨1, 133, none⟩), .pointer (some a), .int .u64 150])).run Tryd.prog w = .ok (some (133, a, 150)) w := by kernel_rfl
theorem Tryd.asIsNilP (a p : Addr) (W : World) (ha : W.cell? a = some (.pointer (some p))) :
    (ReflectliteValue.method (ReflectliteValue.valueError "reflectlite.Value.IsNil" 0) ReflectliteValue.isNil #[.agg #[.pointer (some ⟨1, 133, none⟩), .pointer (some a), .int .u64 150]]).run Tryd.prog W = .ok (.bool false) W := by
  rw [rlm]
  simp only [Sem.run_bind, Tryd.asPartsP, Result.andThen]
  simp [ReflectliteValue.isNil, loadVar, isAgg, underlying, Tryd.underlying133, ha, Result.andThen]

theorem Tryd.asMethodElem (h : Value) (w : World) : (Go.method 296 154 (.agg #[h]) "Elem").run Tryd.prog w = .ok (154, .agg #[h]) w := by kernel_rfl
theorem Tryd.asMethodImplements (h : Value) (w : World) : (Go.method 296 154 (.agg #[h]) "Implements").run Tryd.prog w = .ok (155, .agg #[h]) w := by kernel_rfl
theorem Tryd.asMethodAssignableTo (h : Value) (w : World) : (Go.method 296 154 (.agg #[h]) "AssignableTo").run Tryd.prog w = .ok (152, .agg #[h]) w := by kernel_rfl
theorem Tryd.asElemP (w : World) : (ReflectliteType.method ReflectliteType.elem #[.agg #[.pointer (some ⟨1, 133, none⟩)]]).run Tryd.prog w = .ok (.iface 154 (.agg #[.pointer (some ⟨1, 131, none⟩)])) w := by kernel_rfl
theorem Tryd.asImplementsS (w : World) : (ReflectliteType.relation "Implements" ReflectliteType.implements_ #[.agg #[.pointer (some ⟨1, 131, none⟩)], .iface 154 (.agg #[.pointer (some ⟨1, 123, none⟩)])]).run Tryd.prog w = .ok (.bool true) w := by kernel_rfl
theorem Tryd.asTypeOfS (v : Value) (w : World) : (ReflectliteType.typeOf #[.iface 131 v]).run Tryd.prog w = .ok (.iface 154 (.agg #[.pointer (some ⟨1, 131, none⟩)])) w := by kernel_rfl
theorem Tryd.asAssignableS (w : World) : (ReflectliteType.relation "AssignableTo" ReflectliteType.assignableTo #[.agg #[.pointer (some ⟨1, 131, none⟩)], .iface 154 (.agg #[.pointer (some ⟨1, 131, none⟩)])]).run Tryd.prog w = .ok (.bool true) w := by kernel_rfl
theorem Tryd.asValueOfS (s : ByteArray) (w : World) : (ReflectliteValue.unpack (.iface 131 (.agg #[.string s]))).run Tryd.prog w
    = .ok (.agg #[.pointer (some ⟨1, 131, none⟩), .pointer (some ⟨w.heap.size, 0, none⟩), .int .u64 153]) (w.alloc (.cells #[.string s] 131)) := by kernel_rfl

theorem Tryd.asElemOfP (w : World) : (Rtype.elem? 133).run Tryd.prog w = .ok (some 131) w := by kernel_rfl
theorem Tryd.asMkS (p : Addr) (w : World) : (ReflectliteValue.mk 131 p ReflectliteValue.flagAddr).run Tryd.prog w = .ok (.agg #[.pointer (some ⟨1, 131, none⟩), .pointer (some p), .int .u64 409]) w := by kernel_rfl
theorem Tryd.asElemV (a p : Addr) (W : World) (ha : W.cell? a = some (.pointer (some p))) :
    (ReflectliteValue.method (ReflectliteValue.valueError "reflectlite.Value.Elem" 0) ReflectliteValue.elem #[.agg #[.pointer (some ⟨1, 133, none⟩), .pointer (some a), .int .u64 150]]).run Tryd.prog W
      = .ok (.agg #[.pointer (some ⟨1, 131, none⟩), .pointer (some p), .int .u64 409]) W := by
  rw [rlm]
  simp only [Sem.run_bind, Tryd.asPartsP, Result.andThen]
  simp [ReflectliteValue.elem, loadVar, isAgg, underlying, Tryd.underlying133, ha, Result.andThen, Tryd.asElemOfP, Tryd.asMkS]
theorem rls (v x : Value) : ReflectliteValue.set #[v, x] = (do
    let (some (dst, a, fl), some (src, b, _)) := (← ReflectliteValue.parts v, ← ReflectliteValue.parts x)
      | unsupported (.noEntry "extern/(internal/reflectlite.Value).Set.zeroValue")
    if fl / ReflectliteValue.flagAddr % 2 == 0 then unsupported (.noEntry "extern/(internal/reflectlite.Value).Set.unaddressable")
    let val ← loadVar src b
    if ← Rtype.directlyAssignable dst src then storeVar dst a val
    else if ← Rtype.implements dst src then
      if (← Rtype.kind src) == 20 then
        match val with
        | .nilIface => unsupported (.noEntry "extern/reflectlite: a nil value of one interface type handed on as a value of another")
        | _ => storeVar dst a val
      else storeVar dst a (.iface src val)
    else panicString ("reflectlite.Set: value of type " ++ (← Rtype.spelt src) ++ " is not assignable to type " ++ (← Rtype.spelt dst))
    pure (.tuple #[])) := rfl
theorem Tryd.asPartsSa (a : Addr) (w : World) : (ReflectliteValue.parts (.agg #[.pointer (some ⟨1, 131, none⟩), .pointer (some a), .int .u64 409])).run Tryd.prog w = .ok (some (131, a, 409)) w := by kernel_rfl
theorem Tryd.asPartsS (a : Addr) (w : World) : (ReflectliteValue.parts (.agg #[.pointer (some ⟨1, 131, none⟩), .pointer (some a), .int .u64 153])).run Tryd.prog w = .ok (some (131, a, 153)) w := by kernel_rfl
theorem Tryd.asDirectS (w : World) : (Rtype.directlyAssignable 131 131).run Tryd.prog w = .ok true w := by kernel_rfl
theorem Tryd.asSizeS (w : World) : (sizeOf 131).run Tryd.prog w = .ok 1 w := by kernel_rfl
theorem Tryd.asSetS (ta b : Addr) (s : ByteArray) (old : Value) (W : World) (hb : W.cell? b = some (.string s)) (ht : W.cell? ta = some old) (hf : W.frozen? ta = false) :
    (ReflectliteValue.set #[.agg #[.pointer (some ⟨1, 131, none⟩), .pointer (some ta), .int .u64 409], .agg #[.pointer (some ⟨1, 131, none⟩), .pointer (some b), .int .u64 153]]).run Tryd.prog W
      = .ok (.tuple #[]) (W.setCell ta (.string s)) := by
  rw [rls]
  simp only [Sem.run_bind, Tryd.asPartsSa, Tryd.asPartsS, Result.andThen]
  simp [ReflectliteValue.flagAddr, loadVar, loadCells, loadCellsFrom, hb, Result.andThen, Tryd.asDirectS, storeVar, Value.cells, storeCells, Addr.add]
  rw [run_store Tryd.prog W ta _ _ (by rfl)]
  simp [ht, hf]

/-- errors.As(nil, target). -/
theorem as_nil (t : Value) (w : World) : Calls Tryd.prog 117 #[.nilIface, t] w fun e w' => e = .returned (.bool false) ∧ w' = w := by
  go_enter Tryd.func117, Tryd.ntmps117
  go_wp2
  go_ret
  exact ⟨rfl, rfl⟩

set_option maxHeartbeats 4000000 in
theorem as_hit (s : ByteArray) (t : Addr) (old : Value) (w : World) (hg : w.cell? ⟨0, 0, none⟩ = some (.iface 154 (.agg #[.pointer (some ⟨1, 123, none⟩)]))) (ht0 : w.cell? t = some old) (hf0 : w.frozen? t = false) :
    Calls Tryd.prog 117 #[.iface 131 (.agg #[.string s]), .iface 133 (.pointer (some t))] w fun ev w' => ev = .returned (.bool true) ∧ w' = ((((w.alloc (.cells #[.pointer (some t)] 133)).alloc (.cells #[.pointer (some ⟨1, 133, none⟩), .pointer (some ⟨w.heap.size, 0, none⟩), .int .u64 150] 141)).alloc (.cells #[.pointer (some ⟨1, 133, none⟩), .pointer (some ⟨w.heap.size, 0, none⟩), .int .u64 150] 141)).alloc (.cells #[.string s] 131)).setCell t (.string s) := by
  have h6 := @run_callFunc_extern Tryd.prog 122 _ (fun args => ReflectliteValue.unpack (args.getD 0 (.tuple #[]))) Tryd.func122 (by kernel_rfl) (by kernel_rfl) (by kernel_rfl) (by kernel_rfl)
  have h7 := @run_callFunc_extern Tryd.prog 123 _ (ReflectliteValue.methodAny (ReflectliteValue.valueError "reflectlite.Value.Type" 0) (fun t _ _ _ => ReflectliteType.toType t)) Tryd.func123 (by kernel_rfl) (by kernel_rfl) (by kernel_rfl) (by kernel_rfl)
  have h8 := @run_callFunc_extern Tryd.prog 124 _ (ReflectliteValue.method (ReflectliteValue.valueError "reflectlite.Value.IsNil" 0) ReflectliteValue.isNil) Tryd.func124 (by kernel_rfl) (by kernel_rfl) (by kernel_rfl) (by kernel_rfl)
  have h27 := @run_callFunc_extern Tryd.prog 144 _ (ReflectliteType.abiMethod fun t => do pure (.int .u8 (← Rtype.kind t))) Tryd.func144 (by kernel_rfl) (by kernel_rfl) (by kernel_rfl) (by kernel_rfl)
  have h37 := @run_callFunc_extern Tryd.prog 154 _ (ReflectliteType.method ReflectliteType.elem) Tryd.func154 (by kernel_rfl) (by kernel_rfl) (by kernel_rfl) (by kernel_rfl)
  have h38 := @run_callFunc_extern Tryd.prog 155 _ (ReflectliteType.relation "Implements" ReflectliteType.implements_) Tryd.func155 (by kernel_rfl) (by kernel_rfl) (by kernel_rfl) (by kernel_rfl)
  have h10 := @run_callFunc_extern Tryd.prog 127 _ ReflectliteType.typeOf Tryd.func127 (by kernel_rfl) (by kernel_rfl) (by kernel_rfl) (by kernel_rfl)
  have h35 := @run_callFunc_extern Tryd.prog 152 _ (ReflectliteType.relation "AssignableTo" ReflectliteType.assignableTo) Tryd.func152 (by kernel_rfl) (by kernel_rfl) (by kernel_rfl) (by kernel_rfl)
  have h11 := @run_callFunc_extern Tryd.prog 128 _ (ReflectliteValue.method (ReflectliteValue.valueError "reflectlite.Value.Elem" 0) ReflectliteValue.elem) Tryd.func128 (by kernel_rfl) (by kernel_rfl) (by kernel_rfl) (by kernel_rfl)
  have h12 := @run_callFunc_extern Tryd.prog 129 _ ReflectliteValue.set Tryd.func129 (by kernel_rfl) (by kernel_rfl) (by kernel_rfl) (by kernel_rfl)
  have tO := Tryd.asTypeOfS
  have mA := Tryd.asMethodAssignableTo
  have a25 := Tryd.asAssignableS
  have v25 := Tryd.asValueOfS
  have f6 := Tryd.asValueOfP
  have f7 := Tryd.asTypeP
  have mK := Tryd.asMethodKind
  have mE := Tryd.asMethodElem
  have mI := Tryd.asMethodImplements
  have k27 := Tryd.asKindP
  have k25 := Tryd.asKindS
  have e27 := Tryd.asElemP
  have i25 := Tryd.asImplementsS
  have n8 := Tryd.asIsNilP ⟨w.heap.size, 0, none⟩ t ((w.alloc (.cells #[.pointer (some t)] 133)).alloc (.cells #[.pointer (some ⟨1, 133, none⟩), .pointer (some ⟨w.heap.size, 0, none⟩), .int .u64 150] 141)) (by simp)
  have hlt : 0 < w.heap.size := by
    rcases Nat.lt_or_ge 0 w.heap.size with h0 | h0
    · exact h0
    · simp [World.cell?, Array.getElem?_eq_none h0] at hg
  have hg2 : ((w.alloc (.cells #[.pointer (some t)] 133)).alloc (.cells #[.pointer (some ⟨1, 133, none⟩), .pointer (some ⟨w.heap.size, 0, none⟩), .int .u64 150] 141)).cell? ⟨0, 0, none⟩ = some (.iface 154 (.agg #[.pointer (some ⟨1, 123, none⟩)])) := by
    rw [World.cell?_alloc_lt _ _ ⟨0, 0, none⟩ (Nat.lt_of_lt_of_le hlt (by simp)), World.cell?_alloc_lt _ _ ⟨0, 0, none⟩ hlt]; exact hg
  have htl : t.block < w.heap.size := by
    rcases Nat.lt_or_ge t.block w.heap.size with h | h
    · exact h
    · simp [World.cell?, Array.getElem?_eq_none h] at ht0
  have el := Tryd.asElemV ⟨w.heap.size, 0, none⟩ t (((w.alloc (.cells #[.pointer (some t)] 133)).alloc (.cells #[.pointer (some ⟨1, 133, none⟩), .pointer (some ⟨w.heap.size, 0, none⟩), .int .u64 150] 141)).alloc (.cells #[.pointer (some ⟨1, 133, none⟩), .pointer (some ⟨w.heap.size, 0, none⟩), .int .u64 150] 141)) (by rw [World.cell?_alloc_lt _ _ ⟨w.heap.size, 0, none⟩ (by simp; omega)]; simp)
  have st := Tryd.asSetS t ⟨w.heap.size + 1 + 1 + 1, 0, none⟩ s old ((((w.alloc (.cells #[.pointer (some t)] 133)).alloc (.cells #[.pointer (some ⟨1, 133, none⟩), .pointer (some ⟨w.heap.size, 0, none⟩), .int .u64 150] 141)).alloc (.cells #[.pointer (some ⟨1, 133, none⟩), .pointer (some ⟨w.heap.size, 0, none⟩), .int .u64 150] 141)).alloc (.cells #[.string s] 131))
    (by rw [World.cell?_alloc_at _ _ _ _ (by simp)]; rfl)
    (by rw [World.cell?_alloc_lt _ _ t (by simp; omega), World.cell?_alloc_lt _ _ t (by simp; omega), World.cell?_alloc_lt _ _ t (by simp; omega), World.cell?_alloc_lt _ _ t htl]; exact ht0)
    (by rw [World.frozen?_alloc_old _ _ t (by simp; omega), World.frozen?_alloc_old _ _ t (by simp; omega), World.frozen?_alloc_old _ _ t (by simp; omega), World.frozen?_alloc_old _ _ t (Nat.ne_of_lt htl)]; exact hf0)
  go_enter Tryd.func117, Tryd.ntmps117
  go_wp2
  refine wp_loop_rounds 1 ?_
  rw [rounds_succ]
  go_wp2
  go_ret
  exact ⟨rfl, rfl⟩

theorem isNo_nil (w : World) : Calls Tryd.prog 106 #[.nilIface] w fun e w' => e = .returned (.bool false) ∧ Below w.heap.size w w' := by
  go_enter Tryd.func106, Tryd.ntmps106
  go_wp2_with fail
  refine (as_nil _ _).mono ?_
  rintro e w' ⟨rfl, rfl⟩
  go_wp2
  go_ret
  exact ⟨rfl, (Below.refl _ _).alloc (Nat.le_refl _) _⟩

set_option maxHeartbeats 1000000 in
theorem isNo_hit (s : ByteArray) (w : World) (hg : ErrT w) : Calls Tryd.prog 106 #[.iface 131 (.agg #[.string s])] w fun e w' => e = .returned (.bool true) ∧ Below w.heap.size w w' := by
  have hgA : ErrT (w.alloc (.cells #[.string ⟨#[]⟩] 131)) := hg.keep ((Below.refl _ _).alloc (Nat.le_refl _) _)
  go_enter Tryd.func106, Tryd.ntmps106
  go_wp2_with fail
  refine (as_hit s ⟨w.heap.size, 0, none⟩ (.string ⟨#[]⟩) _ hgA (by simp) (by simp)).mono ?_
  rintro e w' ⟨rfl, rfl⟩
  go_wp2
  go_ret
  refine ⟨rfl, ?_⟩
  exact (((((Below.refl _ _).alloc (Nat.le_refl _) _).alloc (by simp) _).alloc (by simp; omega) _).alloc (by simp; omega) _).alloc (by simp; omega) _
end Go.Proofs.YtbaocehcnjdkkaaDoor

/- When an object is right; the walks of impl.partsOk, impl.checkObj and impl.ObjOk. -/
namespace Go.Proofs.YtbaocehcnjdkkaaDoor
open Go.RowKit

def partsB (l : List Int) (least most : Int) : Bool := decide (l.length ≤ 5) && l.all (fun z => inB z least most)
theorem partsB_at {l : List Int} {least most : Int} (j : Nat) (hj : j < l.length) (h : inB (l.getD j 0) least most = false) : partsB l least most = false := by
  have : (l.all (fun z => inB z least most)) = false := by
    rw [List.all_eq_false]
    exact ⟨l.getD j 0, by simp [List.getD, hj], by rw [h]; decide⟩
  simp [partsB, this]
theorem partsB_all {l : List Int} {least most : Int} (h : ∀ j, j < l.length → inB (l.getD j 0) least most = true) : partsB l least most = decide (l.length ≤ 5) := by
  have : (l.all (fun z => inB z least most)) = true := by
    rw [List.all_eq_true]
    intro z hz
    obtain ⟨j, hj, rfl⟩ := List.getElem_of_mem hz
    have := h j hj
    simpa [List.getD, hj] using this
  simp [partsB, this]
theorem okB_parts (o : ObjV) : okB o = (inB o.kind 1 99 && (partsB o.ints (-1000000) 1000000 && partsB o.refs 0 31)) := by
  unfold okB partsB
  cases inB o.kind 1 99 <;> cases decide (o.ints.length ≤ 5) <;> cases decide (o.refs.length ≤ 5) <;> cases o.ints.all (fun z => inB z (-1000000) 1000000) <;> simp

theorem inB_false {x l m : Int} (h : inB x l m = false) : x < l ∨ (¬ x < l ∧ m < x) := by simp [inB] at h; omega
theorem inB_true {x l m : Int} (h : inB x l m = true) : ¬ x < l ∧ ¬ m < x := by simp [inB] at h; omega

/-- What checkObj answers of what is right, and of what is not. -/
def IsErr (ok : Bool) (e : Ending) : Prop := (ok = true ∧ e = .returned .nilIface) ∨ (ok = false ∧ ∃ s, e = .returned (.iface 131 (.agg #[.string s])))
theorem isErr_ok {ok : Bool} (h : ok = true) : IsErr ok (.returned .nilIface) := .inl ⟨h, rfl⟩
theorem isErr_no {ok : Bool} (h : ok = false) (s : ByteArray) : IsErr ok (.returned (.iface 131 (.agg #[.string s]))) := .inr ⟨h, s, rfl⟩

set_option maxHeartbeats 400000 in
theorem partsOk_any (a : Option Addr) (c : Nat) (l : List Int) (least most : Int) (w : World) (hr : ReadsI w a l) (hl : l.length ≤ 140737488355328) :
    Calls Tryd.prog 118 #[.slice a l.length c, .int .i64 least, .int .i64 most] w fun e w' => e = .returned (.bool (partsB l least most)) ∧ w' = w := by
  go_enter Tryd.func118, Tryd.ntmps118
  go_wp2
  go_loop [11] (fun i => ∃ j : Nat, j ≤ l.length ∧ i = .int .i64 j ∧ Hid (∀ t, t < j → inB (l.getD t 0) least most = true)) (fun i => l.length - (intOf i).toNat)
  case atStart => exact ⟨0, by omega, rfl, fun t ht => by omega⟩
  case round =>
    obtain ⟨j, hj, rfl, hall⟩ := hrel
    by_cases hlt : j < l.length
    · rcases hr.cases with rfl | ⟨b, off, rfl, hpos, hcell⟩
      · simp at hlt
      have hc := hcell j hlt
      clear hcell
      cases hz : inB (l.getD j 0) least most with
      | false =>
        have HE : Hid (partsB l least most = false) := partsB_at j hlt hz
        have hz' := inB_false hz
        clear hz
        generalize l.getD j 0 = z at *
        rcases hz' with h1 | ⟨h1, h2⟩
        all_goals
          go_wp2
          go_ret
          exact ⟨ret_bool HE.out.symm, rfl⟩
      | true =>
        have HN : Hid (∀ t, t < j + 1 → inB (l.getD t 0) least most = true) := by
          intro t ht
          by_cases e : t = j
          · rw [e]; exact hz
          · exact hall.out t (by omega)
        obtain ⟨h1, h2⟩ := inB_true hz
        clear hz
        generalize l.getD j 0 = z at *
        go_wp2
        go_round
        case rel => exact ⟨j + 1, by omega, by go_num, HN⟩
        case measure => simp [intOf]; omega
    · have HE : Hid (partsB l least most = decide (l.length ≤ 5)) := partsB_all (fun t ht => hall.out t (by omega))
      go_wp2
      go_ret
      exact ⟨ret_bool (by rw [HE.out]; exact decide_eq_decide.2 (by omega)), rfl⟩

set_option maxHeartbeats 1000000 in
set_option maxRecDepth 100000 in
theorem checkObj_any (o : ObjV) (aI : Option Addr) (cI : Nat) (aR : Option Addr) (cR : Nat) (w : World) (hr : ReadsO w aI cI aR cR o) (hnI : o.ints.length ≤ 140737488355328) (hnR : o.refs.length ≤ 140737488355328) :
    Calls Tryd.prog 107 #[.agg #[.int .i64 o.kind, .slice aI o.ints.length cI, .slice aR o.refs.length cR]] w fun e w' => IsErr (okB o) e ∧ Below w.heap.size w w' := by
  have HOK := okB_parts o
  generalize okB o = OK at *
  obtain ⟨k, ints, refs⟩ := o
  obtain ⟨hI, hR, _, _⟩ := hr
  simp only at *
  obtain ⟨W, hW, b0, hbW, hsW⟩ := boxes1 w [.int .i64 k, .slice aI ints.length cI, .slice aR refs.length cR] 26
  have hI' := hI.below hbW
  have hR' := hR.below hbW
  have x0 := b0.cell 0 _ rfl
  have x1 := b0.cell 1 _ rfl
  have x2 := b0.cell 2 _ rfl
  cases hk : inB k 1 99 with
  | false =>
    have HF : Hid (OK = false) := by rw [Hid, HOK, hk, Bool.false_and]
    clear HOK
    have hz' := inB_false hk
    clear hk
    rcases hz' with h1 | ⟨h1, h2⟩
    all_goals
      go_enter Tryd.func107, Tryd.ntmps107
      go_wp2
      go_ret
      exact ⟨isErr_no HF.out _, hW.out ▸ hbW⟩
  | true =>
  rw [hk, Bool.true_and] at HOK
  obtain ⟨h1, h2⟩ := inB_true hk
  clear hk
  cases hp : partsB ints (-1000000) 1000000 with
  | false =>
    have HF : Hid (OK = false) := by rw [Hid, HOK, hp, Bool.false_and]
    clear HOK
    have HP : Hid (_ = _) := hp
    clear hp
    go_enter Tryd.func107, Tryd.ntmps107
    go_wp2_with fail
    rw [hW.out]
    refine (partsOk_any aI cI ints _ _ W hI' hnI).mono ?_
    rintro e w' ⟨rfl, rfl⟩
    rw [HP.out]
    go_wp2
    go_ret
    exact ⟨isErr_no HF.out _, hbW⟩
  | true =>
  rw [hp, Bool.true_and] at HOK
  have HP : Hid (_ = _) := hp
  clear hp
  cases hq : partsB refs 0 31 with
  | false =>
    have HF : Hid (OK = false) := by rw [Hid, HOK, hq]
    clear HOK
    have HQ : Hid (_ = _) := hq
    clear hq
    go_enter Tryd.func107, Tryd.ntmps107
    go_wp2_with fail
    rw [hW.out]
    refine (partsOk_any aI cI ints _ _ W hI' hnI).mono ?_
    rintro e w' ⟨rfl, rfl⟩
    rw [HP.out]
    go_wp2_with fail
    refine (partsOk_any aR cR refs _ _ _ hR' hnR).mono ?_
    rintro e w' ⟨rfl, rfl⟩
    rw [HQ.out]
    go_wp2
    go_ret
    exact ⟨isErr_no HF.out _, hbW⟩
  | true =>
    have HF : Hid (OK = true) := by rw [Hid, HOK, hq]
    clear HOK
    have HQ : Hid (_ = _) := hq
    clear hq
    go_enter Tryd.func107, Tryd.ntmps107
    go_wp2_with fail
    rw [hW.out]
    refine (partsOk_any aI cI ints _ _ W hI' hnI).mono ?_
    rintro e w' ⟨rfl, rfl⟩
    rw [HP.out]
    go_wp2_with fail
    refine (partsOk_any aR cR refs _ _ _ hR' hnR).mono ?_
    rintro e w' ⟨rfl, rfl⟩
    rw [HQ.out]
    go_wp2
    go_ret
    exact ⟨isErr_ok HF.out, hbW⟩

set_option maxHeartbeats 1000000 in
set_option maxRecDepth 100000 in
theorem implObjOk_any (o : ObjV) (aI : Option Addr) (cI : Nat) (aR : Option Addr) (cR : Nat) (w : World) (hg : ErrT w) (hr : ReadsO w aI cI aR cR o) (hnI : o.ints.length ≤ 140737488355328) (hnR : o.refs.length ≤ 140737488355328) :
    Calls Tryd.prog 82 #[.agg #[.int .i64 o.kind, .slice aI o.ints.length cI, .slice aR o.refs.length cR]] w fun e w' => e = .returned (.bool (okB o)) ∧ Below w.heap.size w w' := by
  obtain ⟨W, hW, b0, hbW, hsW⟩ := boxes1 w [.int .i64 o.kind, .slice aI o.ints.length cI, .slice aR o.refs.length cR] 26
  have hr' := hr.below hbW
  have hg' := hg.keep hbW
  have x0 := b0.cell 0 _ rfl
  have x1 := b0.cell 1 _ rfl
  have x2 := b0.cell 2 _ rfl
  go_enter Tryd.func82, Tryd.ntmps82
  go_wp2_with fail
  rw [hW.out]
  refine (checkObj_any o aI cI aR cR W hr' hnI hnR).mono ?_
  rintro e w1 ⟨he, hb1⟩
  have B1 : Below w.heap.size w w1 := hbW.trans (hb1.mono hbW.size)
  rcases he with ⟨hok, rfl⟩ | ⟨hok, s, rfl⟩
  · have HO : Hid (_ = _) := hok
    clear hok
    go_wp2_with fail
    refine (isNo_nil w1).mono ?_
    rintro e w2 ⟨rfl, hb2⟩
    go_wp2
    go_ret
    exact ⟨by rw [HO.out]; rfl, B1.trans (hb2.mono B1.size)⟩
  · have HO : Hid (_ = _) := hok
    clear hok
    go_wp2_with fail
    refine (isNo_hit s w1 (hg'.keep hb1)).mono ?_
    rintro e w2 ⟨rfl, hb2⟩
    go_wp2
    go_ret
    exact ⟨by rw [HO.out]; rfl, B1.trans (hb2.mono B1.size)⟩
end Go.Proofs.YtbaocehcnjdkkaaDoor

/- The walks of impl.slotHas, impl.slotOk and impl.markSlots over either; a slot of a row taken out by its number. -/
namespace Go.Proofs.YtbaocehcnjdkkaaDoor
open Go.RowKit

theorem slotB_same {s : SlotV} (h : s.has = false) : slotB s = sameO s.o noO := by
  obtain ⟨b, k, i, r⟩ := s
  simp only at h
  subst h
  show slotB ⟨false, k, i, r⟩ = (decide (k = (0 : Int)) && (decide (i = ([] : List Int)) && decide (r = ([] : List Int))))
  rw [Bool.eq_iff_iff]
  simp [slotB]

set_option maxHeartbeats 400000 in
set_option maxRecDepth 100000 in
theorem slotHas_any (s : SlotA) (w : World) :
    Calls Tryd.prog 53 #[.agg s.cells.toArray] w fun e w' => e = .returned (.bool s.v.has) ∧ Below w.heap.size w w' := by
  obtain ⟨W, hW, b0, hbW, hsW⟩ := boxes1 w s.cells 28
  simp only [SlotA.cells] at *
  go_enter Tryd.func53, Tryd.ntmps53
  go_wp2
  go_ret
  exact ⟨rfl, by rw [hW.out]; exact hbW⟩

set_option maxHeartbeats 400000 in
set_option maxRecDepth 100000 in
theorem slotOk_any (s : SlotA) (w : World) (hg : ErrT w) (hr : s.reads w) (hl : Fit [s]) :
    Calls Tryd.prog 45 #[.agg s.cells.toArray] w fun e w' => e = .returned (.bool (slotB s.v)) ∧ Below w.heap.size w w' := by
  obtain ⟨h1, h2⟩ := hl s (List.mem_singleton.2 rfl)
  obtain ⟨W, hW, b0, hbW, hsW⟩ := boxes1 w s.cells 28
  have hr' : s.reads W := ReadsO.below hr hbW
  have hg' := hg.keep hbW
  have HT : Hid (s.v.has = true → slotB s.v = okB s.v.o) := fun h => slotB_has h
  have HF : Hid (s.v.has = false → slotB s.v = sameO s.v.o noO) := fun h => slotB_same h
  have hno : ReadsO W none 0 none 0 noO := ⟨fun h => absurd rfl h, fun h => absurd rfl h, fun _ => rfl, fun _ => rfl⟩
  have C1 := implObjOk_any s.v.o s.aI s.cI s.aR s.cR W hg' hr' (by omega) (by omega)
  have C2 := implSameObj_any s.v.o noO s.aI s.cI s.aR s.cR none 0 none 0 W hr' hno (by omega) (by omega) (by simp [noO]) (by simp [noO])
  simp only [noO] at C2
  generalize slotB s.v = R at *
  simp only [SlotA.cells] at *
  cases hh : s.v.has with
  | true =>
    have HE : Hid (_ = _) := HT.out hh
    rw [hh] at hW
    clear hh C2 HT HF
    go_enter Tryd.func45, Tryd.ntmps45
    go_wp2_with fail
    rw [hW.out]
    refine C1.mono ?_
    rintro e w1 ⟨rfl, hb1⟩
    go_wp2
    go_ret
    exact ⟨ret_bool HE.out.symm, hbW.trans (hb1.mono hbW.size)⟩
  | false =>
    have HE : Hid (_ = _) := HF.out hh
    rw [hh] at hW
    clear hh C1 HT HF
    go_enter Tryd.func45, Tryd.ntmps45
    go_wp2_with fail
    rw [hW.out]
    refine C2.mono ?_
    rintro e w1 ⟨rfl, hb1⟩
    go_wp2
    go_ret
    exact ⟨ret_bool HE.out.symm, hbW.trans (hb1.mono hbW.size)⟩

theorem cells_take (ss : List SlotA) (k : Nat) (hk : k < ss.length) : ((cellsS ss).drop (k * 4)).take 4 = (ss.getD k zeroS).cells := by
  apply List.ext_getElem?
  intro j
  rw [List.getElem?_take]
  by_cases hj : j < 4
  · rw [if_pos (by omega), List.getElem?_drop]
    exact cellsS_at ss k j hk hj
  · rw [if_neg (by omega), List.getElem?_eq_none (by rw [cells_len]; omega)]
theorem run_index_slot (ss : List SlotA) (h4 : ss.length = 4) (k : Nat) (hk : k < 4) (w : World) :
    (Instr.index 29 (.agg (cellsS ss).toArray) (.int .i64 (k : Int))).run Tryd.prog w = .ok (.agg (ss.getD k zeroS).cells.toArray) w := by
  have he := cells_take ss k (by omega)
  have hz : (sizeOf 28).run Tryd.prog w = .ok 4 w := by kernel_rfl
  simp [Instr.index, asIntOf, part, run_underlying Tryd.underlying29, hz]
  rw [if_pos hk, he]
  simp [List.getD]
end Go.Proofs.YtbaocehcnjdkkaaDoor

/- The walk of impl.copyPage. -/
namespace Go.Proofs.YtbaocehcnjdkkaaDoor
open Go.RowKit

set_option maxHeartbeats 2000000 in
set_option maxRecDepth 100000 in
theorem copyPage_own (p : PageA) (h4 : p.ss.length = 4) (w : World) (hr : ReadsS w p.ss) (hl : Fit p.ss) :
    Calls Tryd.prog 44 #[.agg p.cells.toArray] w fun e w' => ∃ ts : List SlotA, e = .returned (.agg (PageA.cells ⟨p.lsn, ts⟩).toArray) ∧ Hid (ts.map (·.v) = p.ss.map (·.v)) ∧ OwnS w' w.heap.size w'.heap.size ts ∧ Below w.heap.size w w' := by
  obtain ⟨n, ss⟩ := p
  simp only [PageA.cells] at *
  obtain ⟨W, hW, b0, b1, b2, hbW, hsW⟩ := boxes3 w (.int .i64 n :: cellsS ss) [.int .i64 0, .bool false, .int .i64 0, .slice none 0 0, .slice none 0 0, .bool false, .int .i64 0, .slice none 0 0, .slice none 0 0, .bool false, .int .i64 0, .slice none 0 0, .slice none 0 0, .bool false, .int .i64 0, .slice none 0 0, .slice none 0 0] [.int .i64 n, .bool false, .int .i64 0, .slice none 0 0, .slice none 0 0, .bool false, .int .i64 0, .slice none 0 0, .slice none 0 0, .bool false, .int .i64 0, .slice none 0 0, .slice none 0 0, .bool false, .int .i64 0, .slice none 0 0, .slice none 0 0] 31 31 31
  have b1' : Box W (w.heap.size + 1) ([] ++ ((.int .i64 0 :: cellsS zero4) ++ [])) 31 := b1
  have b2' : Box W (w.heap.size + 1 + 1) (.int .i64 n :: cellsS ([] ++ List.replicate (4 - 0) zeroS)) 31 := b2
  have hsW' : w.heap.size + 1 + 1 < W.heap.size := by omega
  have hc0 : (((w.alloc (.cells (.int .i64 n :: cellsS ss).toArray 31)).alloc (.cells #[.int .i64 0, .bool false, .int .i64 0, .slice none 0 0, .slice none 0 0, .bool false, .int .i64 0, .slice none 0 0, .slice none 0 0, .bool false, .int .i64 0, .slice none 0 0, .slice none 0 0, .bool false, .int .i64 0, .slice none 0 0, .slice none 0 0] 31))).cell? ⟨w.heap.size, 0, none⟩ = some (.int .i64 n) := ((box_new w (.int .i64 n :: cellsS ss) 31).alloc _).cell 0 _ rfl
  have hrg0 : W.rangeAt w.heap.size 1 (cellsS ss) := Box.range [.int .i64 n] (cellsS ss) [] (by simpa using b0)
  have hi0 : (Tryd.prog.info? 29).map (·.size) = some (cellsS ss).length := by rw [cellsS_len, h4]; kernel_rfl
  have HX := run_index_slot ss h4
  have H4 : Hid (ss.length = 4) := h4
  clear b1 b2 hsW h4
  go_enter Tryd.func44, Tryd.ntmps44
  go_wp2_with (first | (guard_target = wpList _ _ _ (Oper.mk (some 10) _ _ _ _ _ :: _) _ _; refine wpList_load_mid rfl 29 (.tmp 9) rfl w.heap.size 1 rfl (cellsS ss) _ (by rw [hW.out]; exact hrg0) Tryd.underlying29 rfl hi0 ?_) | fail)
  rw [hW.out]
  clear hW hrg0 hi0 hc0
  go_loopw [11] (fun i wr => ∃ (k : Nat) (ts : List SlotA), i = .int .i64 k ∧ k ≤ 4 ∧ Hid (ts.length = k ∧ ts.map (·.v) = (ss.take k).map (·.v)) ∧ OwnS wr W.heap.size wr.heap.size ts ∧ Box wr (w.heap.size + 1 + 1) (.int .i64 n :: cellsS (ts ++ List.replicate (4 - k) zeroS)) 31 ∧ Below (w.heap.size + 1 + 1) W wr)
    (fun i _ => 4 - (intOf i).toNat)
  case atStart => exact ⟨0, [], rfl, by omega, ⟨rfl, rfl⟩, OwnS.nil _ _ _, b2', Below.refl _ _⟩
  case round =>
    obtain ⟨k, ts, rfl, hk, hts, hown, hbox, hbl⟩ := hrel
    clear b2'
    have b1r := b1'.below hbl (by omega)
    have hsr := hbl.size
    have hsz := hbox.lt
    by_cases hlt : k < 4
    · have hkl : k < ss.length := by rw [H4.out]; exact hlt
      have hx := HX k hlt
      clear HX
      have hrk := (hr _ (getD_mem hkl)).below (hbW.trans (hbl.mono (by omega)))
      have hlk := hl _ (getD_mem hkl)
      have HV : Hid ((ss.take (k + 1)).map (·.v) = (ss.take k).map (·.v) ++ [(ss.getD k zeroS).v]) := by
        rw [Hid, List.take_add_one, List.map_append]
        simp [List.getD, hkl]
      generalize ss.getD k zeroS = s at *
      simp only [SlotA.cells] at hx
      obtain ⟨W1, hW1, bx, hbx1, hsx1⟩ := boxes1 wr [.bool s.v.has, .int .i64 s.v.o.kind, .slice s.aI s.v.o.ints.length s.cI, .slice s.aR s.v.o.refs.length s.cR] 28
      have C := copySlot_own s W1 (ReadsO.below hrk hbx1) hlk.1 hlk.2
      simp only [SlotA.cells] at C
      go_wp2_with fail
      rw [hW1.out]
      refine C.mono ?_
      clear C hx hrk hlk
      rintro e w1 ⟨t, rfl, hv, ho, hb1⟩
      have hs1 := hb1.size
      have N1 : Below wr.heap.size wr w1 := hbx1.trans (hb1.mono (by omega))
      have hbx := hbox.below N1 hsz
      have hkt : k < (ts ++ List.replicate (4 - k) zeroS).length := by have := hts.out.1; simp; omega
      obtain ⟨W2, hW2, b2, hw2, hs2⟩ := pslot_fill hbx k hkt t
      obtain ⟨x0, x1, x2, x3, hfz⟩ := hbx.pslot k hkt
      have f0 := hfz (1 + k * 4)
      have f1 := hfz (1 + k * 4 + 1)
      have f2 := hfz (1 + k * 4 + 2)
      have f3 := hfz (1 + k * 4 + 3)
      generalize (ts ++ List.replicate (4 - k) zeroS).getD k zeroS = old at *
      have b2' : Box W2 (w.heap.size + 1 + 1) (.int .i64 n :: cellsS ((ts ++ [t]) ++ List.replicate (4 - (k + 1)) zeroS)) 31 := by
        rw [show 4 - k = (4 - (k + 1)) + 1 by omega] at b2
        have e := set_snoc ts (4 - (k + 1)) t
        rw [hts.out.1] at e
        rw [e] at b2
        exact b2
      have hown1 : OwnS w1 W.heap.size W1.heap.size ts := (hown.below N1).widen (Nat.le_refl _) (by omega) (by omega)
      have hO1 : OwnS w1 W.heap.size w1.heap.size (ts ++ [t]) := hown1.snoc ho (by omega) hs1 (Nat.le_refl _)
      have hO2 : OwnS W2 W.heap.size W2.heap.size (ts ++ [t]) := (hO1.within hw2 (.inr (by omega))).widen (Nat.le_refl _) (by omega) (Nat.le_refl _)
      have hB2 : Below (w.heap.size + 1 + 1) W W2 := (hbl.trans (N1.mono (by omega))).trans (hw2.below (Nat.le_refl _) (by omega))
      have HT : Hid ((ts ++ [t]).length = k + 1 ∧ (ts ++ [t]).map (·.v) = (ss.take (k + 1)).map (·.v)) := by
        refine ⟨by have := hts.out.1; simp; omega, ?_⟩
        rw [HV.out, List.map_append, hts.out.2, ← hv.out]
        rfl
      have hi0 : (0 : Int) ≤ (k : Int) := by omega
      have hi4 : (k : Int) < 4 := by omega
      clear hfz hs2 hw2 b2 hO1 hown hown1 hbox hbx hts HV hkt hb1 ho N1 hbx1
      go_wp2_with fail
      rw [hW2.out]
      go_roundw
      case rel => exact ⟨k + 1, ts ++ [t], by go_num, by omega, HT, hO2, b2', hB2⟩
      case measure => simp [intOf]; omega
    · obtain rfl : k = 4 := by omega
      have hkk : ¬ ((4 : Nat) : Int) < 4 := by omega
      have hrp : ts ++ List.replicate (4 - 4) zeroS = ts := by simp
      rw [hrp] at hbox
      have htl : ts.length = 4 := hts.out.1
      have HMV : Hid (ts.map (·.v) = ss.map (·.v)) := by rw [Hid, hts.out.2, List.take_of_length_le (by rw [H4.out]; omega)]
      obtain ⟨WF, hWF, bF, hwF, hsF⟩ := range_fill [] (.int .i64 0 :: cellsS zero4) (.int .i64 n :: cellsS ts) [] b1r (by simp only [List.length_cons, cellsS_len, htl]; rfl)
      have HWF : Hid (wr.setCells (w.heap.size + 1) 0 (.int .i64 n :: cellsS ts) = WF) := hWF.out
      have HR2 : Hid (wr.rangeAt (w.heap.size + 1 + 1) 0 (.int .i64 n :: cellsS ts)) := Box.range [] (.int .i64 n :: cellsS ts) [] (by simpa using hbox)
      have HTF : Hid (wr.there (w.heap.size + 1) 0 (.int .i64 n :: cellsS ts).toArray.size) := b1r.there 0 _ (by simp only [List.size_toArray, cellsS_len, htl, List.length_append, List.length_cons, List.length_nil]; decide)
      have hrF : WF.rangeAt (w.heap.size + 1) 0 (.int .i64 n :: cellsS ts) := Box.range [] (.int .i64 n :: cellsS ts) [] (by simpa using bF)
      have HI : Hid ((Tryd.prog.info? 31).map (·.size) = some (.int .i64 n :: cellsS ts).length) := by rw [Hid, List.length_cons, cellsS_len, htl]; kernel_rfl
      have HO : Hid (_) := all_oneCell_toArray (oneP ⟨n, ts⟩)
      have HLF : Hid (_) := run_loadVar_mid (P := Tryd.prog) _ (w.heap.size + 1) 0 31 (.int .i64 n :: cellsS ts) _ hrF Tryd.underlying31 rfl HI.out
      have HOF : Hid (OwnS WF w.heap.size WF.heap.size ts) := (hown.within hwF (.inr (by omega))).widen (by omega) (by omega) (Nat.le_refl _)
      have HBF : Hid (Below w.heap.size w WF) := (hbW.trans (hbl.mono (by omega))).trans (hwF.below (by omega) (by omega))
      simp only [PageA.cells] at HO
      clear hWF bF hwF hsF hrF hrp htl hbox hown HX hts
      go_wp2_with (first | (guard_target = wpList _ _ _ (Oper.mk (some 21) _ _ _ _ _ :: _) _ _; refine wpList_load_mid rfl 31 (.tmp 3) rfl (w.heap.size + 1 + 1) 0 rfl (.int .i64 n :: cellsS ts) _ HR2.out Tryd.underlying31 rfl HI.out ?_) | (guard_target = wpList _ _ _ (Oper.mk none (Op.store _ (Operand.tmp 2) _) _ _ _ _ :: _) _ _; refine wpList_store_mid rfl 31 (.tmp 2) (.tmp 21) rfl (w.heap.size + 1) 0 (.int .i64 n :: cellsS ts).toArray rfl rfl HTF.out (by rw [List.size_toArray]; exact HI.out) HO.out ?_) | fail)
      rw [HWF.out]
      exact bodyPost_ret (v := .agg (.int .i64 n :: cellsS ts).toArray) (results_one Tryd.results44 rfl HLF.out) rfl ⟨ts, rfl, HMV, HOF.out, HBF.out⟩
end Go.Proofs.YtbaocehcnjdkkaaDoor

/- The walks of impl.markSlots over impl.slotHas and over impl.slotOk. -/
namespace Go.Proofs.YtbaocehcnjdkkaaDoor
open Go.RowKit

/-- A row of four marks of which the first ones are laid. -/
def mkB (bs : List Bool) : List Value := bs.map Value.bool ++ List.replicate (4 - bs.length) (.bool false)
theorem mkB_set (bs : List Bool) (b : Bool) (h : bs.length < 4) : (mkB bs).set bs.length (.bool b) = mkB (bs ++ [b]) := by
  unfold mkB
  rw [List.set_append_right _ _ (by simp)]
  have e : 4 - bs.length = (4 - (bs ++ [b]).length) + 1 := by simp; omega
  rw [e, List.replicate_succ]
  simp
theorem mkB_len (bs : List Bool) (h : bs.length ≤ 4) : (mkB bs).length = 4 := by simp [mkB]; omega
theorem mkB_all (bs : List Bool) (h : bs.length = 4) : mkB bs = bs.map Value.bool := by simp [mkB, h]
theorem mkB_some (bs : List Bool) (h : bs.length ≤ 4) (k : Nat) (hk : k < 4) : ∃ v, (mkB bs)[k]? = some v := ⟨_, List.getElem?_eq_getElem (by rw [mkB_len bs h]; exact hk)⟩
/-- The answer is a row of these four marks. -/
def FourAns (bs : List Bool) (e : Ending) : Prop := ∃ c0 c1 c2 c3 : Bool, e = .returned (.agg #[.bool c0, .bool c1, .bool c2, .bool c3]) ∧ bs = [c0, c1, c2, c3]
theorem take_snoc (ss : List SlotA) (q : SlotV → Bool) (k : Nat) (h : k < ss.length) : (ss.take (k + 1)).map (fun s => q s.v) = (ss.take k).map (fun s => q s.v) ++ [q (ss.getD k zeroS).v] := by
  rw [List.take_add_one, List.map_append]
  simp [List.getD, h]

set_option maxHeartbeats 1000000 in
set_option maxRecDepth 100000 in
theorem markSlots_has (p : PageA) (h4 : p.ss.length = 4) (w : World) :
    Calls Tryd.prog 47 #[.agg p.cells.toArray, .func (.func 53) #[] #[]] w fun e w' => FourAns (p.ss.map (fun s => s.v.has)) e ∧ Below w.heap.size w w' := by
  obtain ⟨n, ss⟩ := p
  simp only [PageA.cells] at *
  obtain ⟨W, hW, b0, b1, b2, hbW, hsW⟩ := boxes3 w (.int .i64 n :: cellsS ss) [.bool false, .bool false, .bool false, .bool false] [.bool false, .bool false, .bool false, .bool false] 31 72 72
  have b2' : Box W (w.heap.size + 1 + 1) (mkB []) 72 := b2
  have hsW' : w.heap.size + 1 + 1 < W.heap.size := by omega
  have hrg0 : W.rangeAt w.heap.size 1 (cellsS ss) := Box.range [.int .i64 n] (cellsS ss) [] (by simpa using b0)
  have hi0 : (Tryd.prog.info? 29).map (·.size) = some (cellsS ss).length := by rw [cellsS_len, h4]; kernel_rfl
  have HX := run_index_slot ss h4
  have H4 : Hid (ss.length = 4) := h4
  clear b2 hsW h4
  go_enter Tryd.func47, Tryd.ntmps47
  go_wp2_with (first | (guard_target = wpList _ _ _ (Oper.mk (some 9) _ _ _ _ _ :: _) _ _; refine wpList_load_mid rfl 29 (.tmp 8) rfl w.heap.size 1 rfl (cellsS ss) _ (by rw [hW.out]; exact hrg0) Tryd.underlying29 rfl hi0 ?_) | fail)
  rw [hW.out]
  clear hW hrg0 hi0
  go_loopw [10] (fun i wr => ∃ (k : Nat) (bs : List Bool), i = .int .i64 k ∧ k ≤ 4 ∧ Hid (bs.length = k ∧ bs = (ss.take k).map (fun s => s.v.has)) ∧ Box wr (w.heap.size + 1 + 1) (mkB bs) 72 ∧ Below (w.heap.size + 1 + 1) W wr)
    (fun i _ => 4 - (intOf i).toNat)
  case atStart => exact ⟨0, [], rfl, by omega, ⟨rfl, rfl⟩, b2', Below.refl _ _⟩
  case round =>
    obtain ⟨k, bs, rfl, hk, hbs, hbox, hbl⟩ := hrel
    clear b2'
    have b1r := b1.below hbl (by omega)
    have hsr := hbl.size
    by_cases hlt : k < 4
    · have hkl : k < ss.length := by rw [H4.out]; exact hlt
      have hx := HX k hlt
      clear HX
      have hbs4 : bs.length ≤ 4 := by have := hbs.out.1; omega
      have HV : Hid (_ = _) := take_snoc ss (fun s => s.has) k hkl

      generalize ss.getD k zeroS = s at *
      simp only [SlotA.cells] at hx
      obtain ⟨W1, hW1, bx, hbx1, hsx1⟩ := boxes1 wr [.bool s.v.has, .int .i64 s.v.o.kind, .slice s.aI s.v.o.ints.length s.cI, .slice s.aR s.v.o.refs.length s.cR] 28
      have hsz := hbox.lt
      have B1 : Below (w.heap.size + 1 + 1) W W1 := hbl.trans (hbx1.mono (by omega))
      go_wp2_with fail
      rw [hW1.out]
      clear hx
      refine (slotHas_any s W1).mono ?_
      rintro e w2 ⟨rfl, hb2⟩
      have hs2 := hb2.size
      have bm2 := (hbox.below hbx1 hsz).below hb2 (by omega)
      obtain ⟨u, hu⟩ := mkB_some bs hbs4 k hlt
      have hc := bm2.cell k u hu
      have hf := bm2.frozen k
      obtain ⟨W3, hW3, b3, hw3, hs3⟩ := box_set bm2 k (.bool (s.v.has))
      have b3' : Box W3 (w.heap.size + 1 + 1) (mkB (bs ++ [s.v.has])) 72 := by
        have e := mkB_set bs (s.v.has) (by have := hbs.out.1; omega)
        rw [hbs.out.1] at e
        rw [← e]; exact b3
      have HB : Hid ((bs ++ [s.v.has]).length = k + 1 ∧ bs ++ [s.v.has] = (ss.take (k + 1)).map (fun s => s.v.has)) := ⟨by have := hbs.out.1; simp; omega, by rw [HV.out, ← hbs.out.2]⟩
      have B3 : Below (w.heap.size + 1 + 1) W W3 := (B1.trans (hb2.mono (by omega))).trans (hw3.below (Nat.le_refl _) (by omega))
      clear b3 bm2 hu HV
      go_wp2_with fail
      rw [hW3.out]
      go_roundw
      case rel => exact ⟨k + 1, bs ++ [s.v.has], by go_num, by omega, HB, b3', B3⟩
      case measure => simp [intOf]; omega
    · obtain rfl : k = 4 := by omega
      have hkk : ¬ ((4 : Nat) : Int) < 4 := by omega
      have HQ : Hid (bs = ss.map (fun s => s.v.has)) := by rw [Hid, hbs.out.2, List.take_of_length_le (by rw [H4.out]; omega)]
      obtain ⟨c0, c1, c2, c3, rfl⟩ : ∃ c0 c1 c2 c3, bs = [c0, c1, c2, c3] := by
        match bs, hbs.out.1 with
        | [c0, c1, c2, c3], _ => exact ⟨c0, c1, c2, c3, rfl⟩
      have hbx : Box wr (w.heap.size + 1 + 1) [.bool c0, .bool c1, .bool c2, .bool c3] 72 := hbox
      obtain ⟨x0, x1, x2, x3, _⟩ := hbx.four
      obtain ⟨y0, y1, y2, y3, f0, f1, f2, f3⟩ := b1r.four
      obtain ⟨WF, hWF, bF, hwF, hsF⟩ := box4_fill b1r (.bool c0) (.bool c1) (.bool c2) (.bool c3)
      have hbF : Below w.heap.size w WF := (hbW.trans (hbl.mono (by omega))).trans (hwF.below (by omega) (by omega))
      clear hbox hbs
      go_wp2
      rw [hWF.out]
      obtain ⟨q0, q1, q2, q3, _⟩ := bF.four
      exact bodyPost_ret (v := .agg #[.bool c0, .bool c1, .bool c2, .bool c3]) (by simp [results, Tryd.results47, go_sem, q0, q1, q2, q3]) rfl ⟨⟨c0, c1, c2, c3, rfl, HQ.out.symm⟩, hbF⟩

set_option maxHeartbeats 1000000 in
set_option maxRecDepth 100000 in
theorem markSlots_ok (p : PageA) (h4 : p.ss.length = 4) (w : World) (hg : ErrT w) (hr : ReadsS w p.ss) (hl : Fit p.ss) :
    Calls Tryd.prog 47 #[.agg p.cells.toArray, .func (.func 45) #[] #[]] w fun e w' => FourAns (p.ss.map (fun s => slotB s.v)) e ∧ Below w.heap.size w w' := by
  obtain ⟨n, ss⟩ := p
  simp only [PageA.cells] at *
  obtain ⟨W, hW, b0, b1, b2, hbW, hsW⟩ := boxes3 w (.int .i64 n :: cellsS ss) [.bool false, .bool false, .bool false, .bool false] [.bool false, .bool false, .bool false, .bool false] 31 72 72
  have b2' : Box W (w.heap.size + 1 + 1) (mkB []) 72 := b2
  have hsW' : w.heap.size + 1 + 1 < W.heap.size := by omega
  have hrg0 : W.rangeAt w.heap.size 1 (cellsS ss) := Box.range [.int .i64 n] (cellsS ss) [] (by simpa using b0)
  have hi0 : (Tryd.prog.info? 29).map (·.size) = some (cellsS ss).length := by rw [cellsS_len, h4]; kernel_rfl
  have HX := run_index_slot ss h4
  have H4 : Hid (ss.length = 4) := h4
  clear b2 hsW h4
  go_enter Tryd.func47, Tryd.ntmps47
  go_wp2_with (first | (guard_target = wpList _ _ _ (Oper.mk (some 9) _ _ _ _ _ :: _) _ _; refine wpList_load_mid rfl 29 (.tmp 8) rfl w.heap.size 1 rfl (cellsS ss) _ (by rw [hW.out]; exact hrg0) Tryd.underlying29 rfl hi0 ?_) | fail)
  rw [hW.out]
  clear hW hrg0 hi0
  go_loopw [10] (fun i wr => ∃ (k : Nat) (bs : List Bool), i = .int .i64 k ∧ k ≤ 4 ∧ Hid (bs.length = k ∧ bs = (ss.take k).map (fun s => slotB s.v)) ∧ Box wr (w.heap.size + 1 + 1) (mkB bs) 72 ∧ Below (w.heap.size + 1 + 1) W wr)
    (fun i _ => 4 - (intOf i).toNat)
  case atStart => exact ⟨0, [], rfl, by omega, ⟨rfl, rfl⟩, b2', Below.refl _ _⟩
  case round =>
    obtain ⟨k, bs, rfl, hk, hbs, hbox, hbl⟩ := hrel
    clear b2'
    have b1r := b1.below hbl (by omega)
    have hsr := hbl.size
    by_cases hlt : k < 4
    · have hkl : k < ss.length := by rw [H4.out]; exact hlt
      have hx := HX k hlt
      clear HX
      have hbs4 : bs.length ≤ 4 := by have := hbs.out.1; omega
      have HV : Hid (_ = _) := take_snoc ss (fun s => slotB s) k hkl
      have hgr := hg.keep (hbW.trans (hbl.mono (by omega)))
      have hrk := (hr _ (getD_mem hkl)).below (hbW.trans (hbl.mono (by omega)))
      have hlk : Fit [ss.getD k zeroS] := fun s hs => by obtain rfl := List.mem_singleton.1 hs; exact hl _ (getD_mem hkl)
      generalize ss.getD k zeroS = s at *
      simp only [SlotA.cells] at hx
      obtain ⟨W1, hW1, bx, hbx1, hsx1⟩ := boxes1 wr [.bool s.v.has, .int .i64 s.v.o.kind, .slice s.aI s.v.o.ints.length s.cI, .slice s.aR s.v.o.refs.length s.cR] 28
      have hsz := hbox.lt
      have B1 : Below (w.heap.size + 1 + 1) W W1 := hbl.trans (hbx1.mono (by omega))
      go_wp2_with fail
      rw [hW1.out]
      clear hx
      refine (slotOk_any s W1 (hgr.keep hbx1) (hrk.below hbx1) hlk).mono ?_
      rintro e w2 ⟨rfl, hb2⟩
      have hs2 := hb2.size
      have bm2 := (hbox.below hbx1 hsz).below hb2 (by omega)
      obtain ⟨u, hu⟩ := mkB_some bs hbs4 k hlt
      have hc := bm2.cell k u hu
      have hf := bm2.frozen k
      obtain ⟨W3, hW3, b3, hw3, hs3⟩ := box_set bm2 k (.bool (slotB s.v))
      have b3' : Box W3 (w.heap.size + 1 + 1) (mkB (bs ++ [slotB s.v])) 72 := by
        have e := mkB_set bs (slotB s.v) (by have := hbs.out.1; omega)
        rw [hbs.out.1] at e
        rw [← e]; exact b3
      have HB : Hid ((bs ++ [slotB s.v]).length = k + 1 ∧ bs ++ [slotB s.v] = (ss.take (k + 1)).map (fun s => slotB s.v)) := ⟨by have := hbs.out.1; simp; omega, by rw [HV.out, ← hbs.out.2]⟩
      have B3 : Below (w.heap.size + 1 + 1) W W3 := (B1.trans (hb2.mono (by omega))).trans (hw3.below (Nat.le_refl _) (by omega))
      clear b3 bm2 hu HV
      go_wp2_with fail
      rw [hW3.out]
      go_roundw
      case rel => exact ⟨k + 1, bs ++ [slotB s.v], by go_num, by omega, HB, b3', B3⟩
      case measure => simp [intOf]; omega
    · obtain rfl : k = 4 := by omega
      have hkk : ¬ ((4 : Nat) : Int) < 4 := by omega
      have HQ : Hid (bs = ss.map (fun s => slotB s.v)) := by rw [Hid, hbs.out.2, List.take_of_length_le (by rw [H4.out]; omega)]
      obtain ⟨c0, c1, c2, c3, rfl⟩ : ∃ c0 c1 c2 c3, bs = [c0, c1, c2, c3] := by
        match bs, hbs.out.1 with
        | [c0, c1, c2, c3], _ => exact ⟨c0, c1, c2, c3, rfl⟩
      have hbx : Box wr (w.heap.size + 1 + 1) [.bool c0, .bool c1, .bool c2, .bool c3] 72 := hbox
      obtain ⟨x0, x1, x2, x3, _⟩ := hbx.four
      obtain ⟨y0, y1, y2, y3, f0, f1, f2, f3⟩ := b1r.four
      obtain ⟨WF, hWF, bF, hwF, hsF⟩ := box4_fill b1r (.bool c0) (.bool c1) (.bool c2) (.bool c3)
      have hbF : Below w.heap.size w WF := (hbW.trans (hbl.mono (by omega))).trans (hwF.below (by omega) (by omega))
      clear hbox hbs
      go_wp2
      rw [hWF.out]
      obtain ⟨q0, q1, q2, q3, _⟩ := bF.four
      exact bodyPost_ret (v := .agg #[.bool c0, .bool c1, .bool c2, .bool c3]) (by simp [results, Tryd.results47, go_sem, q0, q1, q2, q3]) rfl ⟨⟨c0, c1, c2, c3, rfl, HQ.out.symm⟩, hbF⟩
end Go.Proofs.YtbaocehcnjdkkaaDoor

/- The walk of impl.PageOk. -/
namespace Go.Proofs.YtbaocehcnjdkkaaDoor
open Go.RowKit

theorem okP_out {n : Int} {vs : List SlotV} (h : inB n 0 1000000 = false) : okP n vs = false := by simp [okP, h]
theorem okP_four {n : Int} {ss : List SlotA} {c0 c1 c2 c3 : Bool} (h : inB n 0 1000000 = true) (hb : ss.map (fun s => slotB s.v) = [c0, c1, c2, c3]) : okP n (ss.map (·.v)) = (c0 && (c1 && (c2 && c3))) := by
  have e : (ss.map (·.v)).map slotB = [c0, c1, c2, c3] := by rw [List.map_map]; exact hb
  have e2 : ∀ vs : List SlotV, vs.all slotB = (vs.map slotB).all id := fun vs => by induction vs with
    | nil => rfl
    | cons v r ih => rw [List.all_cons, List.map_cons, List.all_cons, ← ih]; rfl
  rw [okP, h, Bool.and_true, e2, e]
  simp

theorem run_eq4 (c0 c1 c2 c3 : Bool) (w : World) : (Op.equalIn 10000 72 (.agg #[.bool c0, .bool c1, .bool c2, .bool c3]) (.agg #[.bool true, .bool true, .bool true, .bool true])).run Tryd.prog w = .ok (c0 && (c1 && (c2 && c3))) w := by
  cases c0 <;> cases c1 <;> cases c2 <;> cases c3 <;> kernel_rfl

set_option maxHeartbeats 1000000 in
set_option maxRecDepth 100000 in
theorem implPageOk_any (p : PageA) (h4 : p.ss.length = 4) (w : World) (hg : ErrT w) (hr : ReadsS w p.ss) (hl : Fit p.ss) :
    Calls Tryd.prog 13 #[.agg p.cells.toArray] w fun e w' => e = .returned (.bool (okP p.lsn (p.ss.map (·.v)))) ∧ Below w.heap.size w w' := by
  obtain ⟨W, hW, b0, b1, hbW, hsW⟩ := boxes2 w p.cells [.bool true, .bool true, .bool true, .bool true] 31 72
  have hc0 : ∀ w', Below W.heap.size W w' → w'.cell? ⟨w.heap.size, 0, none⟩ = some (.int .i64 p.lsn) := fun w' hh => (b0.below hh b0.lt).cell 0 _ rfl
  have hw0 := hc0 W (Below.refl _ _)
  cases hin : inB p.lsn 0 1000000 with
  | false =>
    have HF : Hid (okP p.lsn (p.ss.map (·.v)) = false) := okP_out hin
    have hz := inB_false hin
    clear hin hc0
    generalize okP p.lsn (p.ss.map (·.v)) = R at *
    generalize p.lsn = n at *
    rcases hz with h1 | ⟨h1, h2⟩
    · have h1' : decide ((0 : Int) ≤ n) = false := decide_eq_false (by omega)
      clear h1
      go_enter Tryd.func13, Tryd.ntmps13
      go_wp2_with fail
      rw [hW.out]
      go_quiet (fail)
      go_wp2
      go_ret
      exact ⟨ret_bool HF.out.symm, below_drewN hbW _⟩
    · have h1' : decide ((0 : Int) ≤ n) = true := decide_eq_true (by omega)
      have h2' : decide (n ≤ 1000000) = false := decide_eq_false (by omega)
      clear h1 h2
      go_enter Tryd.func13, Tryd.ntmps13
      go_wp2_with fail
      rw [hW.out]
      go_quiet (fail)
      go_wp2
      go_ret
      exact ⟨ret_bool HF.out.symm, below_drewN hbW _⟩
  | true =>
    obtain ⟨h1, h2⟩ := inB_true hin
    have h1' : (0 : Int) ≤ p.lsn := by omega
    have h2' : p.lsn ≤ 1000000 := by omega
    have HIN : Hid (_ = _) := hin
    have HRG : Hid (∀ w', Below W.heap.size W w' → w'.rangeAt w.heap.size 0 p.cells) := fun w' hh => Box.range [] p.cells [] (by simpa using b0.below hh b0.lt)
    have HRA : Hid (∀ w', Below W.heap.size W w' → w'.rangeAt (w.heap.size + 1) 0 [.bool true, .bool true, .bool true, .bool true]) := fun w' hh => Box.range [] [.bool true, .bool true, .bool true, .bool true] [] (by simpa using b1.below hh b1.lt)
    have HI : Hid ((Tryd.prog.info? 31).map (·.size) = some p.cells.length) := by rw [Hid, page_len p h4]; kernel_rfl
    clear hin h1 h2
    go_enter Tryd.func13, Tryd.ntmps13
    go_wp2_with fail
    rw [hW.out]
    refine wp_region_held_drew (S := fun w' => w'.cell? ⟨w.heap.size, 0, none⟩ = some (.int .i64 p.lsn) ∧ w'.rangeAt w.heap.size 0 p.cells ∧ w'.rangeAt (w.heap.size + 1) 0 [.bool true, .bool true, .bool true, .bool true]) (by kernel_rfl) ?_ (fun hHeld => ?_)
    · exact ⟨hc0 _ (Below.refl _ _).drew, HRG.out _ (Below.refl _ _).drew, HRA.out _ (Below.refl _ _).drew⟩
    have hd1 : decide ((0 : Int) ≤ p.lsn) = true := decide_eq_true h1'
    have hd2 : decide (p.lsn ≤ 1000000) = true := decide_eq_true h2'
    refine wpAnyH_take (i := 0) (v := .pointer (some ⟨w.heap.size, 0, none⟩)) rfl (by kernel_rfl) (by kernel_rfl) (by kernel_rfl) (fun _ _ _ h => h) (Or.inl ⟨by rfl, fun w' hw' => ?_⟩) hHeld ?_
    · go_simp
    go_simp
    refine wpAnyH_take (i := 1) (v := .int .i64 p.lsn) rfl (by kernel_rfl) (by kernel_rfl) (by kernel_rfl) (fun _ _ _ h => h) (Or.inl ⟨by rfl, fun w' hw' => ?_⟩) hHeld ?_
    · have q := hw'.1; go_simp
    go_simp
    refine wpAnyH_take (i := 2) (v := .bool true) rfl (by kernel_rfl) (by kernel_rfl) (by kernel_rfl) (fun _ _ _ h => h) (Or.inl ⟨by rfl, fun w' hw' => ?_⟩) hHeld ?_
    · go_simp
    go_simp
    refine wpAnyH_take (i := 3) (v := .bool true) rfl (by kernel_rfl) (by kernel_rfl) (by kernel_rfl) (fun _ _ _ h => h) (Or.inl ⟨by rfl, fun w' hw' => ?_⟩) hHeld ?_
    · go_simp
    go_simp
    refine wpAnyH_take (i := 4) (v := .pointer (some ⟨w.heap.size, 0, none⟩)) rfl (by kernel_rfl) (by kernel_rfl) (by kernel_rfl) (fun _ _ _ h => h) (Or.inl ⟨by rfl, fun w' hw' => ?_⟩) hHeld ?_
    · go_simp
    go_simp
    refine wpAnyH_take (i := 5) (v := .int .i64 p.lsn) rfl (by kernel_rfl) (by kernel_rfl) (by kernel_rfl) (fun _ _ _ h => h) (Or.inl ⟨by rfl, fun w' hw' => ?_⟩) hHeld ?_
    · have q := hw'.1; go_simp
    go_simp
    refine wpAnyH_take (i := 6) (v := .bool true) rfl (by kernel_rfl) (by kernel_rfl) (by kernel_rfl) (fun _ _ _ h => h) (Or.inl ⟨by rfl, fun w' hw' => ?_⟩) hHeld ?_
    · go_simp
    go_simp
    refine wpAnyH_take (i := 7) (v := .bool true) rfl (by kernel_rfl) (by kernel_rfl) (by kernel_rfl) (fun _ _ _ h => h) (Or.inl ⟨by rfl, fun w' hw' => ?_⟩) hHeld ?_
    · go_simp
    go_simp
    refine wpAnyH_take (i := 8) (v := .bool true) rfl (by kernel_rfl) (by kernel_rfl) (by kernel_rfl) (fun _ _ _ h => h) (Or.inl ⟨by rfl, fun w' hw' => ?_⟩) hHeld ?_
    · go_simp
    go_simp
    refine wpAnyH_take (i := 9) rfl (by kernel_rfl) (by kernel_rfl) (by kernel_rfl) (fun _ _ _ h => h) (yieldsIf_load_mid (by rfl) _ _ rfl _ _ rfl p.cells _ (fun _ h => h.2.1) Tryd.underlying31 rfl HI.out) hHeld ?_
    go_simp
    refine wpAnyH_take (i := 11) rfl (by kernel_rfl) (by kernel_rfl) (by kernel_rfl) (fun _ _ _ h => h) (yieldsIf_load_mid (by rfl) _ _ rfl _ _ rfl [.bool true, .bool true, .bool true, .bool true] _ (fun _ h => h.2.2) Tryd.underlying72 rfl (by kernel_rfl)) hHeld ?_
    go_simp
    refine wpAnyH_ready (rs := [10]) (by kernel_rfl) (by simp) ?_
    refine AllReadyH.cons rfl (fun K hK => ?_) AllReadyH.nil
    go_simp
    refine (markSlots_ok p h4 _ (hg.keep hbW.drew) (hr.below hbW.drew) hl).mono ?_
    rintro e w2 ⟨⟨c0, c1, c2, c3, rfl, hcs⟩, hb2⟩
    have B2 : Below W.heap.size W w2 := ((Below.refl _ _).drew).trans hb2
    have HR : Hid (_ = _) := okP_four HIN.out hcs
    clear hcs
    refine hK.out _ _ ⟨hc0 _ B2, HRG.out _ B2, HRA.out _ B2⟩ (fun hHeld => ?_)
    clear hK K
    refine wpAnyH_take (i := 12) (v := .bool (c0 && (c1 && (c2 && c3)))) rfl (by kernel_rfl) (by kernel_rfl) (by kernel_rfl) (fun _ _ _ h => h) (Or.inl ⟨by rfl, fun w' hw' => ?_⟩) hHeld ?_
    · have q := run_eq4 c0 c1 c2 c3 w'; go_simp
    go_simp
    generalize (c0 && (c1 && (c2 && c3))) = D at *
    refine wpAnyH_take (i := 13) (v := .bool D) rfl (by kernel_rfl) (by kernel_rfl) (by kernel_rfl) (fun _ _ _ h => h) (Or.inl ⟨by rfl, fun w' hw' => ?_⟩) hHeld ?_
    · go_simp
    go_simp
    refine wpAnyH_take (i := 14) (v := .bool D) rfl (by kernel_rfl) (by kernel_rfl) (by kernel_rfl) (fun _ _ _ h => h) (Or.inl ⟨by rfl, fun w' hw' => ?_⟩) hHeld ?_
    · go_simp
    go_simp
    refine wpAnyH_done (by kernel_rfl) ?_ _
    go_wp2
    go_ret
    exact ⟨ret_bool HR.out.symm, hbW.trans (B2.mono hbW.size)⟩
end Go.Proofs.YtbaocehcnjdkkaaDoor

/- The walk of impl.SetSlot. -/
namespace Go.Proofs.YtbaocehcnjdkkaaDoor
open Go.RowKit

set_option maxHeartbeats 4000000 in
set_option maxRecDepth 100000 in
theorem implSetSlot_any (p : PageA) (h4 : p.ss.length = 4) (slot : Int) (s : SlotA) (lsn : Int) (w : World) (hg : ErrT w) (hr : ReadsS w p.ss) (hl : Fit p.ss) (hrs : s.reads w) (hls : Fit [s]) :
    Calls Tryd.prog 12 #[.agg p.cells.toArray, .int .i64 slot, .agg s.cells.toArray, .int .i64 lsn] w fun e w' => ∃ ts : List SlotA, e = .returned (.tuple #[.agg (PageA.cells ⟨(setOf p.lsn (p.ss.map (·.v)) slot s.v lsn).1, ts⟩).toArray, .bool (setOk p.lsn (p.ss.map (·.v)) slot s.v lsn)]) ∧ Hid (ts.map (·.v) = (setOf p.lsn (p.ss.map (·.v)) slot s.v lsn).2) ∧ OwnS w' w.heap.size w'.heap.size ts ∧ Below w.heap.size w w' := by
  have HNO : Hid (setOk p.lsn (p.ss.map (·.v)) slot s.v lsn = false → setOf p.lsn (p.ss.map (·.v)) slot s.v lsn = (p.lsn, p.ss.map (·.v))) := fun h => setOf_no h
  have HYE : Hid (setOk p.lsn (p.ss.map (·.v)) slot s.v lsn = true → setOf p.lsn (p.ss.map (·.v)) slot s.v lsn = (lsn, (p.ss.map (·.v)).set slot.toNat s.v)) := fun h => setOf_ok h
  have H1 : Hid (okP p.lsn (p.ss.map (·.v)) = false → setOk p.lsn (p.ss.map (·.v)) slot s.v lsn = false) := fun h => setOk_p h
  have H2 : Hid (inB slot 0 3 = false → setOk p.lsn (p.ss.map (·.v)) slot s.v lsn = false) := fun h => setOk_slot h
  have H3 : Hid (slotB s.v = false → setOk p.lsn (p.ss.map (·.v)) slot s.v lsn = false) := fun h => setOk_s h
  have H5 : Hid (inB lsn p.lsn 1000000 = false → setOk p.lsn (p.ss.map (·.v)) slot s.v lsn = false) := fun h => setOk_lsn h
  have H6 : Hid (okP p.lsn (p.ss.map (·.v)) = true → inB slot 0 3 = true → slotB s.v = true → inB lsn p.lsn 1000000 = true → setOk p.lsn (p.ss.map (·.v)) slot s.v lsn = true) := fun a b c d => setOk_all a b c d
  generalize setOk p.lsn (p.ss.map (·.v)) slot s.v lsn = OK at *
  generalize setOf p.lsn (p.ss.map (·.v)) slot s.v lsn = SO at *
  obtain ⟨hls1, hls2⟩ := hls s (List.mem_singleton.2 rfl)
  have HI : Hid ((Tryd.prog.info? 31).map (·.size) = some p.cells.length) := by rw [Hid, page_len p h4]; kernel_rfl
  obtain ⟨W, hW, b0, b1, b2, hbW, hsW⟩ := boxes3 w p.cells s.cells [.int .i64 0, .bool false, .int .i64 0, .slice none 0 0, .slice none 0 0, .bool false, .int .i64 0, .slice none 0 0, .slice none 0 0, .bool false, .int .i64 0, .slice none 0 0, .slice none 0 0, .bool false, .int .i64 0, .slice none 0 0, .slice none 0 0] 31 28 31
  have hsW' : w.heap.size + 1 + 1 < W.heap.size := by omega
  have HRG : Hid (∀ w', Below W.heap.size W w' → w'.rangeAt w.heap.size 0 p.cells) := fun w' hh => Box.range [] p.cells [] (by simpa using b0.below hh b0.lt)
  have b0' : ∀ w', Below W.heap.size W w' → w'.cell? ⟨w.heap.size, 0, none⟩ = some (.int .i64 p.lsn) := fun w' hh => (b0.below hh b0.lt).cell 0 _ rfl
  have HB2 : Hid (∀ w', Below W.heap.size W w' → Box w' (w.heap.size + 1 + 1) zero17 31) := fun w' hh => b2.below hh b2.lt
  have HB1 : Hid (∀ w', Below W.heap.size W w' → Box w' (w.heap.size + 1) s.cells 28) := fun w' hh => b1.below hh b1.lt
  have HL0 : Hid _ := b0'
  clear hsW b0' b2 b1 b0
  simp only [SlotA.cells] at HB1 hW
  simp only [SlotA.cells]
  go_enter Tryd.func12, Tryd.ntmps12
  go_wp2_with (first | (guard_target = wpList _ _ _ (Oper.mk (some 11) _ _ _ _ _ :: _) _ _; refine wpList_load_mid rfl 31 (.tmp 4) rfl w.heap.size 0 rfl p.cells _ (by rw [hW.out]; exact HRG.out _ (Below.refl _ _)) Tryd.underlying31 rfl HI.out ?_) | fail)
  rw [hW.out]
  clear hW
  refine (copyPage_own p h4 W (hr.below hbW) hl).mono ?_
  rintro e w1 ⟨ts, rfl, hv, ho1, hb1⟩
  have hts4 : ts.length = 4 := by have := congrArg List.length hv.out; simp only [List.length_map] at this; omega
  have HV : Hid (ts.map (·.v) = p.ss.map (·.v)) := hv
  generalize hq : (⟨p.lsn, ts⟩ : PageA) = q at *
  have hq4 : q.ss.length = 4 := by rw [← hq]; exact hts4
  have HQ : Hid (q.lsn = p.lsn ∧ q.ss = ts) := by rw [← hq]; exact ⟨rfl, rfl⟩
  clear hq hv
  have hs1 := hb1.size
  have HIq : Hid ((Tryd.prog.info? 31).map (·.size) = some q.cells.length) := by rw [Hid, page_len q hq4]; kernel_rfl
  have HOq : Hid (_) := all_oneCell_toArray (oneP q)
  obtain ⟨W2, hW2, b3, hb2, hs2⟩ := boxes1 w1 [.int .i64 0, .bool false, .int .i64 0, .slice none 0 0, .slice none 0 0, .bool false, .int .i64 0, .slice none 0 0, .slice none 0 0, .bool false, .int .i64 0, .slice none 0 0, .slice none 0 0, .bool false, .int .i64 0, .slice none 0 0, .slice none 0 0] 31
  obtain ⟨W3, hW3, hw3, hs3, HT3, _, bQ⟩ := page_out (C := w1.heap.size) (T := 31) q hq4 [.int .i64 0, .bool false, .int .i64 0, .slice none 0 0, .slice none 0 0, .bool false, .int .i64 0, .slice none 0 0, .slice none 0 0, .bool false, .int .i64 0, .slice none 0 0, .slice none 0 0, .bool false, .int .i64 0, .slice none 0 0, .slice none 0 0] rfl b3 Tryd.underlying31 rfl (by kernel_rfl)
  have B3 : Below W.heap.size W W3 := (hb1.trans (hb2.mono hs1)).trans (hw3.below (by omega) (by omega))
  have ho3 : OwnS W3 W.heap.size w1.heap.size ts := (ho1.below hb2).within hw3 (.inl (Nat.le_refl _))
  have hs13 : w1.heap.size < W3.heap.size := bQ.lt
  have C1 := implPageOk_any p h4 W3 (hg.keep (hbW.trans (B3.mono hbW.size))) (hr.below (hbW.trans (B3.mono hbW.size))) hl
  clear b3 hw3 hs3 ho1 hb1 hb2 hs2
  go_wp2_with (first | (guard_target = wpList _ _ _ (Oper.mk none (Op.store _ (Operand.tmp 10) _) _ _ _ _ :: _) _ _; refine wpList_store_mid rfl 31 (.tmp 10) (.tmp 12) rfl w1.heap.size 0 q.cells.toArray rfl rfl (by rw [hW2.out]; exact HT3.out) (by rw [List.size_toArray]; exact HIq.out) HOq.out ?_) | (guard_target = wpList _ _ _ (Oper.mk (some 13) _ _ _ _ _ :: _) _ _; refine wpList_load_mid rfl 31 (.tmp 4) rfl w.heap.size 0 rfl p.cells _ (by rw [hW2.out, hW3.out]; exact HRG.out _ B3) Tryd.underlying31 rfl HI.out ?_) | fail)
  rw [hW2.out, hW3.out]
  clear hW2 hW3 HT3
  refine C1.mono ?_
  clear C1
  rintro e w4 ⟨rfl, hb4⟩
  have N4 := hb4
  have B4 : Below W.heap.size W w4 := B3.trans (hb4.mono B3.size)
  have hs4 := hb4.size
  cases hok : okP p.lsn (p.ss.map (·.v)) with
  | false =>
    have HOK : Hid (OK = false) := H1.out hok
    clear hok H1 H2 H3 H5 H6
    have bQv := bQ.below N4 hs13
    have rQv := Box.range [] q.cells [] (by simpa using bQv : Box w4 w1.heap.size ([] ++ (q.cells ++ [])) 31)
    obtain ⟨WF, hWF, hwF, hsF, HTF, HLF, _⟩ := page_out (C := w.heap.size + 1 + 1) (T := 31) q hq4 zero17 rfl (HB2.out _ B4) Tryd.underlying31 rfl (by kernel_rfl)
    have HOF : Hid (OwnS WF w.heap.size WF.heap.size ts) := ((ho3.below N4).within hwF (.inr (by omega))).widen (by omega) (by omega) (Nat.le_refl _)
    have HBF : Hid (Below w.heap.size w WF) := (hbW.trans (B4.mono (by omega))).trans (hwF.below (by omega) (by have := B4.size; omega))
    have HEND : Hid (∃ ts' : List SlotA, Ending.returned (.tuple #[.agg q.cells.toArray, .bool false]) = .returned (.tuple #[.agg (PageA.cells ⟨SO.1, ts'⟩).toArray, .bool OK]) ∧ Hid (ts'.map (·.v) = SO.2) ∧ OwnS WF w.heap.size WF.heap.size ts' ∧ Below w.heap.size w WF) := by
      obtain ⟨qn, qs⟩ := q
      obtain ⟨e1, e2⟩ := HQ.out
      simp only at e1 e2
      subst e2
      refine ⟨qs, ?_, ?_, HOF.out, HBF.out⟩
      · rw [HNO.out HOK.out, HOK.out, e1]
      · rw [Hid, HNO.out HOK.out]; exact HV.out
    clear bQv hwF hsF HOF HBF HNO HYE ho3
    go_wp2_with (first | (guard_target = wpList _ _ _ (Oper.mk (some 39) _ _ _ _ _ :: _) _ _; refine wpList_load_mid rfl 31 (.tmp 10) rfl w1.heap.size 0 rfl q.cells _ (rQv) Tryd.underlying31 rfl HIq.out ?_) | (guard_target = wpList _ _ _ (Oper.mk none (Op.store _ (Operand.tmp 8) _) _ _ _ _ :: _) _ _; refine wpList_store_mid rfl 31 (.tmp 8) (.tmp 39) rfl (w.heap.size + 1 + 1) 0 q.cells.toArray rfl rfl (HTF.out) (by rw [List.size_toArray]; exact HIq.out) HOq.out ?_) | fail)
    rw [hWF.out]
    exact bodyPost_ret (v := .tuple #[.agg q.cells.toArray, .bool false]) (results_cell_flag Tryd.results12 rfl HLF.out rfl) rfl HEND.out
  | true =>
  have HP : Hid (_ = _) := hok
  clear hok H1
  cases hin : inB slot 0 3 with
  | false =>
    have HOK : Hid (OK = false) := H2.out hin
    have hz := inB_false hin
    clear hin H2 H3 H5 H6
    rcases hz with hz1 | ⟨hz1, hz2⟩
    · have hd1 : slot < 0 := hz1
      have bQv := bQ.below N4 hs13
      have rQv := Box.range [] q.cells [] (by simpa using bQv : Box w4 w1.heap.size ([] ++ (q.cells ++ [])) 31)
      obtain ⟨WF, hWF, hwF, hsF, HTF, HLF, _⟩ := page_out (C := w.heap.size + 1 + 1) (T := 31) q hq4 zero17 rfl (HB2.out _ B4) Tryd.underlying31 rfl (by kernel_rfl)
      have HOF : Hid (OwnS WF w.heap.size WF.heap.size ts) := ((ho3.below N4).within hwF (.inr (by omega))).widen (by omega) (by omega) (Nat.le_refl _)
      have HBF : Hid (Below w.heap.size w WF) := (hbW.trans (B4.mono (by omega))).trans (hwF.below (by omega) (by have := B4.size; omega))
      have HEND : Hid (∃ ts' : List SlotA, Ending.returned (.tuple #[.agg q.cells.toArray, .bool false]) = .returned (.tuple #[.agg (PageA.cells ⟨SO.1, ts'⟩).toArray, .bool OK]) ∧ Hid (ts'.map (·.v) = SO.2) ∧ OwnS WF w.heap.size WF.heap.size ts' ∧ Below w.heap.size w WF) := by
        obtain ⟨qn, qs⟩ := q
        obtain ⟨e1, e2⟩ := HQ.out
        simp only at e1 e2
        subst e2
        refine ⟨qs, ?_, ?_, HOF.out, HBF.out⟩
        · rw [HNO.out HOK.out, HOK.out, e1]
        · rw [Hid, HNO.out HOK.out]; exact HV.out
      clear bQv hwF hsF HOF HBF HNO HYE ho3
      go_wp2_with (first | (guard_target = wpList _ _ _ (Oper.mk (some 39) _ _ _ _ _ :: _) _ _; refine wpList_load_mid rfl 31 (.tmp 10) rfl w1.heap.size 0 rfl q.cells _ (rQv) Tryd.underlying31 rfl HIq.out ?_) | (guard_target = wpList _ _ _ (Oper.mk none (Op.store _ (Operand.tmp 8) _) _ _ _ _ :: _) _ _; refine wpList_store_mid rfl 31 (.tmp 8) (.tmp 39) rfl (w.heap.size + 1 + 1) 0 q.cells.toArray rfl rfl (HTF.out) (by rw [List.size_toArray]; exact HIq.out) HOq.out ?_) | fail)
      rw [hWF.out]
      exact bodyPost_ret (v := .tuple #[.agg q.cells.toArray, .bool false]) (results_cell_flag Tryd.results12 rfl HLF.out rfl) rfl HEND.out
    · have hd1 : ¬ slot < 0 := hz1
      have hd2 : 4 ≤ slot := by omega
      clear hz1 hz2
      have bQv := bQ.below N4 hs13
      have rQv := Box.range [] q.cells [] (by simpa using bQv : Box w4 w1.heap.size ([] ++ (q.cells ++ [])) 31)
      obtain ⟨WF, hWF, hwF, hsF, HTF, HLF, _⟩ := page_out (C := w.heap.size + 1 + 1) (T := 31) q hq4 zero17 rfl (HB2.out _ B4) Tryd.underlying31 rfl (by kernel_rfl)
      have HOF : Hid (OwnS WF w.heap.size WF.heap.size ts) := ((ho3.below N4).within hwF (.inr (by omega))).widen (by omega) (by omega) (Nat.le_refl _)
      have HBF : Hid (Below w.heap.size w WF) := (hbW.trans (B4.mono (by omega))).trans (hwF.below (by omega) (by have := B4.size; omega))
      have HEND : Hid (∃ ts' : List SlotA, Ending.returned (.tuple #[.agg q.cells.toArray, .bool false]) = .returned (.tuple #[.agg (PageA.cells ⟨SO.1, ts'⟩).toArray, .bool OK]) ∧ Hid (ts'.map (·.v) = SO.2) ∧ OwnS WF w.heap.size WF.heap.size ts' ∧ Below w.heap.size w WF) := by
        obtain ⟨qn, qs⟩ := q
        obtain ⟨e1, e2⟩ := HQ.out
        simp only at e1 e2
        subst e2
        refine ⟨qs, ?_, ?_, HOF.out, HBF.out⟩
        · rw [HNO.out HOK.out, HOK.out, e1]
        · rw [Hid, HNO.out HOK.out]; exact HV.out
      clear bQv hwF hsF HOF HBF HNO HYE ho3
      go_wp2_with (first | (guard_target = wpList _ _ _ (Oper.mk (some 39) _ _ _ _ _ :: _) _ _; refine wpList_load_mid rfl 31 (.tmp 10) rfl w1.heap.size 0 rfl q.cells _ (rQv) Tryd.underlying31 rfl HIq.out ?_) | (guard_target = wpList _ _ _ (Oper.mk none (Op.store _ (Operand.tmp 8) _) _ _ _ _ :: _) _ _; refine wpList_store_mid rfl 31 (.tmp 8) (.tmp 39) rfl (w.heap.size + 1 + 1) 0 q.cells.toArray rfl rfl (HTF.out) (by rw [List.size_toArray]; exact HIq.out) HOq.out ?_) | fail)
      rw [hWF.out]
      exact bodyPost_ret (v := .tuple #[.agg q.cells.toArray, .bool false]) (results_cell_flag Tryd.results12 rfl HLF.out rfl) rfl HEND.out
  | true =>
  have HIN : Hid (_ = _) := hin
  obtain ⟨hz1, hz2⟩ := inB_true hin
  clear hin H2
  have hd2 : ¬ 4 ≤ slot := by omega
  have bs4 := HB1.out _ B4
  obtain ⟨x0, x1, x2, x3, _⟩ := bs4.four
  have C2 := slotOk_any s w4 (hg.keep (hbW.trans (B4.mono hbW.size))) (ReadsO.below hrs (hbW.trans (B4.mono hbW.size))) hls
  simp only [SlotA.cells] at C2
  go_wp2_with fail
  refine C2.mono ?_
  clear C2 x0 x1 x2 x3
  rintro e w5 ⟨rfl, hb5⟩
  have N5 : Below W3.heap.size W3 w5 := N4.trans (hb5.mono N4.size)
  have B5 : Below W.heap.size W w5 := B4.trans (hb5.mono B4.size)
  have hs5 := hb5.size
  cases hsb : slotB s.v with
  | false =>
    have HOK : Hid (OK = false) := H3.out hsb
    clear hsb H3 H5 H6
    have bQv := bQ.below N5 hs13
    have rQv := Box.range [] q.cells [] (by simpa using bQv : Box w5 w1.heap.size ([] ++ (q.cells ++ [])) 31)
    obtain ⟨WF, hWF, hwF, hsF, HTF, HLF, _⟩ := page_out (C := w.heap.size + 1 + 1) (T := 31) q hq4 zero17 rfl (HB2.out _ B5) Tryd.underlying31 rfl (by kernel_rfl)
    have HOF : Hid (OwnS WF w.heap.size WF.heap.size ts) := ((ho3.below N5).within hwF (.inr (by omega))).widen (by omega) (by omega) (Nat.le_refl _)
    have HBF : Hid (Below w.heap.size w WF) := (hbW.trans (B5.mono (by omega))).trans (hwF.below (by omega) (by have := B5.size; omega))
    have HEND : Hid (∃ ts' : List SlotA, Ending.returned (.tuple #[.agg q.cells.toArray, .bool false]) = .returned (.tuple #[.agg (PageA.cells ⟨SO.1, ts'⟩).toArray, .bool OK]) ∧ Hid (ts'.map (·.v) = SO.2) ∧ OwnS WF w.heap.size WF.heap.size ts' ∧ Below w.heap.size w WF) := by
      obtain ⟨qn, qs⟩ := q
      obtain ⟨e1, e2⟩ := HQ.out
      simp only at e1 e2
      subst e2
      refine ⟨qs, ?_, ?_, HOF.out, HBF.out⟩
      · rw [HNO.out HOK.out, HOK.out, e1]
      · rw [Hid, HNO.out HOK.out]; exact HV.out
    clear bQv hwF hsF HOF HBF HNO HYE ho3
    go_wp2_with (first | (guard_target = wpList _ _ _ (Oper.mk (some 39) _ _ _ _ _ :: _) _ _; refine wpList_load_mid rfl 31 (.tmp 10) rfl w1.heap.size 0 rfl q.cells _ (rQv) Tryd.underlying31 rfl HIq.out ?_) | (guard_target = wpList _ _ _ (Oper.mk none (Op.store _ (Operand.tmp 8) _) _ _ _ _ :: _) _ _; refine wpList_store_mid rfl 31 (.tmp 8) (.tmp 39) rfl (w.heap.size + 1 + 1) 0 q.cells.toArray rfl rfl (HTF.out) (by rw [List.size_toArray]; exact HIq.out) HOq.out ?_) | fail)
    rw [hWF.out]
    exact bodyPost_ret (v := .tuple #[.agg q.cells.toArray, .bool false]) (results_cell_flag Tryd.results12 rfl HLF.out rfl) rfl HEND.out
  | true =>
  have HSB : Hid (_ = _) := hsb
  clear hsb H3
  have y0 := HL0.out _ B5
  cases hln : inB lsn p.lsn 1000000 with
  | false =>
    have HOK : Hid (OK = false) := H5.out hln
    have hz := inB_false hln
    clear hln H5 H6
    rcases hz with hl1 | ⟨hl1, hl2⟩
    · have hd5 : lsn < p.lsn := hl1
      generalize p.lsn = pn at *
      have bQv := bQ.below N5 hs13
      have rQv := Box.range [] q.cells [] (by simpa using bQv : Box w5 w1.heap.size ([] ++ (q.cells ++ [])) 31)
      obtain ⟨WF, hWF, hwF, hsF, HTF, HLF, _⟩ := page_out (C := w.heap.size + 1 + 1) (T := 31) q hq4 zero17 rfl (HB2.out _ B5) Tryd.underlying31 rfl (by kernel_rfl)
      have HOF : Hid (OwnS WF w.heap.size WF.heap.size ts) := ((ho3.below N5).within hwF (.inr (by omega))).widen (by omega) (by omega) (Nat.le_refl _)
      have HBF : Hid (Below w.heap.size w WF) := (hbW.trans (B5.mono (by omega))).trans (hwF.below (by omega) (by have := B5.size; omega))
      have HEND : Hid (∃ ts' : List SlotA, Ending.returned (.tuple #[.agg q.cells.toArray, .bool false]) = .returned (.tuple #[.agg (PageA.cells ⟨SO.1, ts'⟩).toArray, .bool OK]) ∧ Hid (ts'.map (·.v) = SO.2) ∧ OwnS WF w.heap.size WF.heap.size ts' ∧ Below w.heap.size w WF) := by
        obtain ⟨qn, qs⟩ := q
        obtain ⟨e1, e2⟩ := HQ.out
        simp only at e1 e2
        subst e2
        refine ⟨qs, ?_, ?_, HOF.out, HBF.out⟩
        · rw [HNO.out HOK.out, HOK.out, e1]
        · rw [Hid, HNO.out HOK.out]; exact HV.out
      clear bQv hwF hsF HOF HBF HNO HYE ho3
      go_wp2_with (first | (guard_target = wpList _ _ _ (Oper.mk (some 39) _ _ _ _ _ :: _) _ _; refine wpList_load_mid rfl 31 (.tmp 10) rfl w1.heap.size 0 rfl q.cells _ (rQv) Tryd.underlying31 rfl HIq.out ?_) | (guard_target = wpList _ _ _ (Oper.mk none (Op.store _ (Operand.tmp 8) _) _ _ _ _ :: _) _ _; refine wpList_store_mid rfl 31 (.tmp 8) (.tmp 39) rfl (w.heap.size + 1 + 1) 0 q.cells.toArray rfl rfl (HTF.out) (by rw [List.size_toArray]; exact HIq.out) HOq.out ?_) | fail)
      rw [hWF.out]
      exact bodyPost_ret (v := .tuple #[.agg q.cells.toArray, .bool false]) (results_cell_flag Tryd.results12 rfl HLF.out rfl) rfl HEND.out
    · generalize p.lsn = pn at *
      have bQv := bQ.below N5 hs13
      have rQv := Box.range [] q.cells [] (by simpa using bQv : Box w5 w1.heap.size ([] ++ (q.cells ++ [])) 31)
      obtain ⟨WF, hWF, hwF, hsF, HTF, HLF, _⟩ := page_out (C := w.heap.size + 1 + 1) (T := 31) q hq4 zero17 rfl (HB2.out _ B5) Tryd.underlying31 rfl (by kernel_rfl)
      have HOF : Hid (OwnS WF w.heap.size WF.heap.size ts) := ((ho3.below N5).within hwF (.inr (by omega))).widen (by omega) (by omega) (Nat.le_refl _)
      have HBF : Hid (Below w.heap.size w WF) := (hbW.trans (B5.mono (by omega))).trans (hwF.below (by omega) (by have := B5.size; omega))
      have HEND : Hid (∃ ts' : List SlotA, Ending.returned (.tuple #[.agg q.cells.toArray, .bool false]) = .returned (.tuple #[.agg (PageA.cells ⟨SO.1, ts'⟩).toArray, .bool OK]) ∧ Hid (ts'.map (·.v) = SO.2) ∧ OwnS WF w.heap.size WF.heap.size ts' ∧ Below w.heap.size w WF) := by
        obtain ⟨qn, qs⟩ := q
        obtain ⟨e1, e2⟩ := HQ.out
        simp only at e1 e2
        subst e2
        refine ⟨qs, ?_, ?_, HOF.out, HBF.out⟩
        · rw [HNO.out HOK.out, HOK.out, e1]
        · rw [Hid, HNO.out HOK.out]; exact HV.out
      clear bQv hwF hsF HOF HBF HNO HYE ho3
      go_wp2_with (first | (guard_target = wpList _ _ _ (Oper.mk (some 39) _ _ _ _ _ :: _) _ _; refine wpList_load_mid rfl 31 (.tmp 10) rfl w1.heap.size 0 rfl q.cells _ (rQv) Tryd.underlying31 rfl HIq.out ?_) | (guard_target = wpList _ _ _ (Oper.mk none (Op.store _ (Operand.tmp 8) _) _ _ _ _ :: _) _ _; refine wpList_store_mid rfl 31 (.tmp 8) (.tmp 39) rfl (w.heap.size + 1 + 1) 0 q.cells.toArray rfl rfl (HTF.out) (by rw [List.size_toArray]; exact HIq.out) HOq.out ?_) | fail)
      rw [hWF.out]
      exact bodyPost_ret (v := .tuple #[.agg q.cells.toArray, .bool false]) (results_cell_flag Tryd.results12 rfl HLF.out rfl) rfl HEND.out
  | true =>
  have HLN : Hid (_ = _) := hln
  obtain ⟨hl1, hl2⟩ := inB_true hln
  clear hln H5
  have HOK : Hid (OK = true) := H6.out HP.out HIN.out HSB.out HLN.out
  have HSO : Hid (SO = (lsn, (p.ss.map (·.v)).set slot.toNat s.v)) := HYE.out HOK.out
  clear H6 HNO HYE
  obtain ⟨k, rfl⟩ : ∃ k : Nat, slot = (k : Int) := ⟨slot.toNat, by omega⟩
  have hk4 : k < 4 := by omega
  have bs5 := HB1.out _ B5
  obtain ⟨x0, x1, x2, x3, _⟩ := bs5.four
  have C3 := copySlot_own s w5 (ReadsO.below hrs (hbW.trans (B5.mono hbW.size))) hls1 hls2
  simp only [SlotA.cells] at C3
  go_wp2_with fail
  refine C3.mono ?_
  clear C3 x0 x1 x2 x3 y0
  rintro e w7 ⟨t, rfl, hvt, hot, hb7⟩
  have N7 : Below W3.heap.size W3 w7 := N5.trans (hb7.mono N5.size)
  have B7 : Below W.heap.size W w7 := B5.trans (hb7.mono B5.size)
  have hs7 := hb7.size
  obtain ⟨qn, qs⟩ := q
  simp only [PageA.cells] at bQ
  obtain ⟨hqn, hqs⟩ := HQ.out
  simp only at hqn hqs
  subst hqs
  have hs3n := N5.size
  have bQ7 := bQ.below N7 hs13
  have hkl : k < qs.length := by rw [hts4]; exact hk4
  obtain ⟨W8, hW8, b8, hw8, hs8⟩ := pslot_fill bQ7 k hkl t
  obtain ⟨z0, z1, z2, z3, hfz⟩ := bQ7.pslot k hkl
  have f0 := hfz (1 + k * 4)
  have f1 := hfz (1 + k * 4 + 1)
  have f2 := hfz (1 + k * 4 + 2)
  have f3 := hfz (1 + k * 4 + 3)
  obtain ⟨W9, hW9, b9, hw9, hs9⟩ := box_set b8 0 (.int .i64 lsn)
  simp only [List.set_cons_zero] at b9
  have g0 := b8.cell 0 _ rfl
  have g1 := b8.frozen 0
  have B9 : Below W.heap.size W W9 := (B7.trans (hw8.below hs1 (by omega))).trans (hw9.below hs1 (by omega))
  have hr4 : (⟨lsn, qs.set k t⟩ : PageA).ss.length = 4 := by simp only [List.length_set]; exact hts4
  have hap : OwnS W9 W.heap.size w7.heap.size (qs.set k t) := by
    have o1 : OwnS W9 W.heap.size w1.heap.size qs := ((ho3.below N7).within hw8 (.inl (Nat.le_refl _))).within hw9 (.inl (Nat.le_refl _))
    have o2 : t.own W9 w5.heap.size w7.heap.size := OwnO.within (OwnO.within hot hw8 (.inr (by omega))) hw9 (.inr (by omega))
    exact o1.set k o2 (by omega) (by omega) (by omega)
  have HMV : Hid ((qs.set k t).map (·.v) = SO.2) := by rw [Hid, HSO.out, List.map_set, HV.out, hvt.out, Int.toNat_natCast]
  have HS1 : Hid (SO.1 = lsn) := by rw [Hid, HSO.out]
  generalize hrr : (⟨lsn, qs.set k t⟩ : PageA) = r at *
  have b9' : Box W9 w1.heap.size r.cells 31 := by rw [← hrr]; exact b9
  have HEQ : Hid (r = ⟨lsn, qs.set k t⟩) := hrr.symm
  clear hrr b9
  have rR := Box.range [] r.cells [] (by simpa using b9' : Box W9 w1.heap.size ([] ++ (r.cells ++ [])) 31)
  have HIr : Hid ((Tryd.prog.info? 31).map (·.size) = some r.cells.length) := by rw [Hid, page_len r hr4]; kernel_rfl
  have HOr : Hid (_) := all_oneCell_toArray (oneP r)
  obtain ⟨WF, hWF, hwF, hsF, HTF, HLF, _⟩ := page_out (C := w.heap.size + 1 + 1) (T := 31) r hr4 zero17 rfl (HB2.out _ B9) Tryd.underlying31 rfl (by kernel_rfl)
  have HOF : Hid (OwnS WF w.heap.size WF.heap.size (qs.set k t)) := (hap.within hwF (.inr (by omega))).widen (by omega) (by omega) (Nat.le_refl _)
  have HBF : Hid (Below w.heap.size w WF) := (hbW.trans (B9.mono (by omega))).trans (hwF.below (by omega) (by have := B9.size; omega))
  have HEND : Hid (∃ ts' : List SlotA, Ending.returned (.tuple #[.agg r.cells.toArray, .bool true]) = .returned (.tuple #[.agg (PageA.cells ⟨SO.1, ts'⟩).toArray, .bool OK]) ∧ Hid (ts'.map (·.v) = SO.2) ∧ OwnS WF w.heap.size WF.heap.size ts' ∧ Below w.heap.size w WF) :=
    ⟨qs.set k t, by rw [HS1.out, HOK.out, HEQ.out], HMV, HOF.out, HBF.out⟩
  have hi0 : (0 : Int) ≤ (k : Int) := by omega
  have hi4 : (k : Int) < 4 := by omega
  generalize qs.getD k zeroS = old at *
  have W9e := hW9.out
  have W8e := hW8.out
  clear hfz hw8 hw9 hwF hsF HOF HBF hap ho3 hot hvt bQ7 b8 b9' hs8 hs9 HEQ HS1 HMV
  rw [← W9e, ← W8e] at rR HTF
  rw [← W8e] at g0 g1
  rw [← W9e, ← W8e] at hWF
  clear W9e W8e hW8 hW9
  go_wp2_with (first | (guard_target = wpList _ _ _ (Oper.mk (some 47) _ _ _ _ _ :: _) _ _; refine wpList_load_mid rfl 31 (.tmp 10) rfl w1.heap.size 0 rfl r.cells _ (rR) Tryd.underlying31 rfl HIr.out ?_) | (guard_target = wpList _ _ _ (Oper.mk none (Op.store _ (Operand.tmp 8) _) _ _ _ _ :: _) _ _; refine wpList_store_mid rfl 31 (.tmp 8) (.tmp 47) rfl (w.heap.size + 1 + 1) 0 r.cells.toArray rfl rfl (HTF.out) (by rw [List.size_toArray]; exact HIr.out) HOr.out ?_) | fail)
  rw [hWF.out]
  exact bodyPost_ret (v := .tuple #[.agg r.cells.toArray, .bool true]) (results_cell_flag Tryd.results12 rfl HLF.out rfl) rfl HEND.out
end Go.Proofs.YtbaocehcnjdkkaaDoor
