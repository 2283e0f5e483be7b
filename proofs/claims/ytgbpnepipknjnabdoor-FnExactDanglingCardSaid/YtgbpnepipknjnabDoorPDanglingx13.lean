/- Several texts in one, in their order. -/
import Derived.Test.YtgbpnepipknjnabDoorProg
import Derived.Test.YtgbpnepipknjnabDoorPDanglingx2
import Derived.LaidEql
import Derived.Stop.Asserts
import Derived.RowKitTokens
import Derived.Test.YtgbpnepipknjnabDoorPDanglingx6
import Derived.Test.YtgbpnepipknjnabDoorPDanglingx10
import Derived.Test.YtgbpnepipknjnabDoorPDanglingx11
import Derived.Deep.Cut
/- errors.As at a noObject: the walks of errors.As and of impl.isNoObject. -/
namespace Go.Proofs.YtgbpnepipknjnabDoor
open Go.RowKit Go.Extern.Stop Go.Stop Go.Extern

/-- The variable errors.errorType holds the handle of the type error. -/
def ErrT (w : World) : Prop := w.cell? ⟨0, 0, none⟩ = some (.iface 79 (.agg #[.pointer (some ⟨1, 58, none⟩)]))

theorem ErrT.lt {w : World} (h : ErrT w) : 0 < w.heap.size := by
  unfold ErrT at h
  rcases Nat.lt_or_ge 0 w.heap.size with h0 | h0
  · exact h0
  · simp [World.cell?, Array.getElem?_eq_none h0] at h
theorem ErrT.below {w w' : World} {n : Nat} (h : ErrT w) (hb : Below n w w') (hn : 0 < n) : ErrT w' := by
  unfold ErrT at h ⊢
  rw [hb.cell (p := ⟨0, 0, none⟩) hn]
  exact h
theorem ErrT.keep {w w' : World} (h : ErrT w) (hb : Below w.heap.size w w') : ErrT w' := h.below hb h.lt

theorem Tryd.asValueOfP (t : Addr) (w : World) : (ReflectliteValue.unpack (.iface 63 (.pointer (some t)))).run Tryd.prog w
    = .ok (.agg #[.pointer (some ⟨1, 63, none⟩), .pointer (some ⟨w.heap.size, 0, none⟩), .int .u64 150]) (w.alloc (.cells #[.pointer (some t)] 63)) := by kernel_rfl
theorem Tryd.asTypeP (a : Addr) (w : World) : (ReflectliteValue.methodAny (ReflectliteValue.valueError "reflectlite.Value.Type" 0) (fun t _ _ _ => ReflectliteType.toType t) #[.agg #[.pointer (some ⟨1, 63, none⟩), .pointer (some a), .int .u64 150]]).run Tryd.prog w
    = .ok (.iface 79 (.agg #[.pointer (some ⟨1, 63, none⟩)])) w := by kernel_rfl
theorem Tryd.asMethodKind (h : Value) (w : World) : (Go.method 222 79 (.agg #[h]) "Kind").run Tryd.prog w = .ok (59, h) w := by kernel_rfl
theorem Tryd.asKindP (w : World) : ((ReflectliteType.abiMethod fun t => (fun a : Nat => Value.int IntKind.u8 (a : Int)) <$> Rtype.kind t) #[.pointer (some ⟨1, 63, none⟩)]).run Tryd.prog w = .ok (.int .u8 22) w := by kernel_rfl
theorem Tryd.asKindS (w : World) : ((ReflectliteType.abiMethod fun t => (fun a : Nat => Value.int IntKind.u8 (a : Int)) <$> Rtype.kind t) #[.pointer (some ⟨1, 61, none⟩)]).run Tryd.prog w = .ok (.int .u8 25) w := by kernel_rfl

theorem rlm (z : Sem Value) (f : TypeId → Addr → Nat → Nat → Sem Value) (v : Value) :
    ReflectliteValue.method z f #[v] = (do match ← ReflectliteValue.parts v with | none => z | some (t, a, fl) => f t a fl (fl % 32)) := rfl
theorem Tryd.asPartsP (a : Addr) (w : World) : (ReflectliteValue.parts (.agg #[.pointer (some ⟨1, 63, none⟩), .pointer (some a), .int .u64 150])).run Tryd.prog w = .ok (some (63, a, 150)) w := by kernel_rfl
theorem Tryd.asIsNilP (a p : Addr) (W : World) (ha : W.cell? a = some (.pointer (some p))) :
    (ReflectliteValue.method (ReflectliteValue.valueError "reflectlite.Value.IsNil" 0) ReflectliteValue.isNil #[.agg #[.pointer (some ⟨1, 63, none⟩), .pointer (some a), .int .u64 150]]).run Tryd.prog W = .ok (.bool false) W := by
  rw [rlm]
  simp only [Sem.run_bind, Tryd.asPartsP, Result.andThen]
  simp [ReflectliteValue.isNil, loadVar, isAgg, underlying, Tryd.underlying63, ha, Result.andThen]

theorem Tryd.asMethodElem (h : Value) (w : World) : (Go.method 222 79 (.agg #[h]) "Elem").run Tryd.prog w = .ok (69, .agg #[h]) w := by kernel_rfl
theorem Tryd.asMethodImplements (h : Value) (w : World) : (Go.method 222 79 (.agg #[h]) "Implements").run Tryd.prog w = .ok (70, .agg #[h]) w := by kernel_rfl
theorem Tryd.asMethodAssignableTo (h : Value) (w : World) : (Go.method 222 79 (.agg #[h]) "AssignableTo").run Tryd.prog w = .ok (67, .agg #[h]) w := by kernel_rfl
theorem Tryd.asElemP (w : World) : (ReflectliteType.method ReflectliteType.elem #[.agg #[.pointer (some ⟨1, 63, none⟩)]]).run Tryd.prog w = .ok (.iface 79 (.agg #[.pointer (some ⟨1, 61, none⟩)])) w := by kernel_rfl
theorem Tryd.asImplementsS (w : World) : (ReflectliteType.relation "Implements" ReflectliteType.implements_ #[.agg #[.pointer (some ⟨1, 61, none⟩)], .iface 79 (.agg #[.pointer (some ⟨1, 58, none⟩)])]).run Tryd.prog w = .ok (.bool true) w := by kernel_rfl
theorem Tryd.asTypeOfS (v : Value) (w : World) : (ReflectliteType.typeOf #[.iface 61 v]).run Tryd.prog w = .ok (.iface 79 (.agg #[.pointer (some ⟨1, 61, none⟩)])) w := by kernel_rfl
theorem Tryd.asAssignableS (w : World) : (ReflectliteType.relation "AssignableTo" ReflectliteType.assignableTo #[.agg #[.pointer (some ⟨1, 61, none⟩)], .iface 79 (.agg #[.pointer (some ⟨1, 61, none⟩)])]).run Tryd.prog w = .ok (.bool true) w := by kernel_rfl
theorem Tryd.asValueOfS (s : ByteArray) (w : World) : (ReflectliteValue.unpack (.iface 61 (.agg #[.string s]))).run Tryd.prog w
    = .ok (.agg #[.pointer (some ⟨1, 61, none⟩), .pointer (some ⟨w.heap.size, 0, none⟩), .int .u64 153]) (w.alloc (.cells #[.string s] 61)) := by kernel_rfl

theorem Tryd.asElemOfP (w : World) : (Rtype.elem? 63).run Tryd.prog w = .ok (some 61) w := by kernel_rfl
theorem Tryd.asMkS (p : Addr) (w : World) : (ReflectliteValue.mk 61 p ReflectliteValue.flagAddr).run Tryd.prog w = .ok (.agg #[.pointer (some ⟨1, 61, none⟩), .pointer (some p), .int .u64 409]) w := by kernel_rfl
theorem Tryd.asElemV (a p : Addr) (W : World) (ha : W.cell? a = some (.pointer (some p))) :
    (ReflectliteValue.method (ReflectliteValue.valueError "reflectlite.Value.Elem" 0) ReflectliteValue.elem #[.agg #[.pointer (some ⟨1, 63, none⟩), .pointer (some a), .int .u64 150]]).run Tryd.prog W
      = .ok (.agg #[.pointer (some ⟨1, 61, none⟩), .pointer (some p), .int .u64 409]) W := by
  rw [rlm]
  simp only [Sem.run_bind, Tryd.asPartsP, Result.andThen]
  simp [ReflectliteValue.elem, loadVar, isAgg, underlying, Tryd.underlying63, ha, Result.andThen, Tryd.asElemOfP, Tryd.asMkS]
theorem rls (v x : Value) : ReflectliteValue.set #[v, x] = (do
    let (some (dst, a, fl), some (src, b, _)) := (← ReflectliteValue.parts v, ← ReflectliteValue.parts x)
      | unsupported (.noEntry "extern/(internal/reflectlite.Value).Set.zeroValue")
    if fl / ReflectliteValue.flagAddr % 2 == 0 then unsupported (.noEntry "extern/(internal/reflectlite.Value).Set.unaddressable")
    let val ← loadVar src b
    if ← Rtype.directlyAssignable dst src then storeVar dst a val
    else if ← Rtype.implements dst src then
      if (← Rtype.kind src) == 20 then
        match val with
        | .nilIface => unsupported (.noEntry "extern/reflectlite: a nil value of one interface type handed on as a value of another")
        | _ => storeVar dst a val
      else storeVar dst a (.iface src val)
    else panicString ("reflectlite.Set: value of type " ++ (← Rtype.spelt src) ++ " is not assignable to type " ++ (← Rtype.spelt dst))
    pure (.tuple #[])) := rfl
theorem Tryd.asPartsSa (a : Addr) (w : World) : (ReflectliteValue.parts (.agg #[.pointer (some ⟨1, 61, none⟩), .pointer (some a), .int .u64 409])).run Tryd.prog w = .ok (some (61, a, 409)) w := by kernel_rfl
theorem Tryd.asPartsS (a : Addr) (w : World) : (ReflectliteValue.parts (.agg #[.pointer (some ⟨1, 61, none⟩), .pointer (some a), .int .u64 153])).run Tryd.prog w = .ok (some (61, a, 153)) w := by kernel_rfl
theorem Tryd.asDirectS (w : World) : (Rtype.directlyAssignable 61 61).run Tryd.prog w = .ok true w := by kernel_rfl
theorem Tryd.asSetS (ta b : Addr) (s : ByteArray) (old : Value) (W : World) (hb : W.cell? b = some (.string s)) (ht : W.cell? ta = some old) (hf : W.frozen? ta = false) :
    (ReflectliteValue.set #[.agg #[.pointer (some ⟨1, 61, none⟩), .pointer (some ta), .int .u64 409], .agg #[.pointer (some ⟨1, 61, none⟩), .pointer (some b), .int .u64 153]]).run Tryd.prog W
      = .ok (.tuple #[]) (W.setCell ta (.string s)) := by
  rw [rls]
  simp only [Sem.run_bind, Tryd.asPartsSa, Tryd.asPartsS, Result.andThen]
  simp [ReflectliteValue.flagAddr, loadVar, loadCells, loadCellsFrom, hb, Result.andThen, Tryd.asDirectS, storeVar, Value.cells, storeCells, Addr.add]
  rw [run_store Tryd.prog W ta _ _ (by rfl)]
  simp [ht, hf]

/-- errors.As(nil, target). -/
theorem as_nil (t : Value) (w : World) : Calls Tryd.prog 36 #[.nilIface, t] w fun e w' => e = .returned (.bool false) ∧ w' = w := by
  go_enter Tryd.func36, Tryd.ntmps36
  go_wp2
  go_ret
  exact ⟨rfl, rfl⟩

set_option maxHeartbeats 4000000 in
theorem as_hit (s : ByteArray) (t : Addr) (old : Value) (w : World) (hg : w.cell? ⟨0, 0, none⟩ = some (.iface 79 (.agg #[.pointer (some ⟨1, 58, none⟩)]))) (ht0 : w.cell? t = some old) (hf0 : w.frozen? t = false) :
    Calls Tryd.prog 36 #[.iface 61 (.agg #[.string s]), .iface 63 (.pointer (some t))] w fun ev w' => ev = .returned (.bool true) ∧ w' = ((((w.alloc (.cells #[.pointer (some t)] 63)).alloc (.cells #[.pointer (some ⟨1, 63, none⟩), .pointer (some ⟨w.heap.size, 0, none⟩), .int .u64 150] 68)).alloc (.cells #[.pointer (some ⟨1, 63, none⟩), .pointer (some ⟨w.heap.size, 0, none⟩), .int .u64 150] 68)).alloc (.cells #[.string s] 61)).setCell t (.string s) := by
  have h6 := @run_callFunc_extern Tryd.prog 38 _ (fun args => ReflectliteValue.unpack (args.getD 0 (.tuple #[]))) Tryd.func38 (by kernel_rfl) (by kernel_rfl) (by kernel_rfl) (by kernel_rfl)
  have h7 := @run_callFunc_extern Tryd.prog 39 _ (ReflectliteValue.methodAny (ReflectliteValue.valueError "reflectlite.Value.Type" 0) (fun t _ _ _ => ReflectliteType.toType t)) Tryd.func39 (by kernel_rfl) (by kernel_rfl) (by kernel_rfl) (by kernel_rfl)
  have h8 := @run_callFunc_extern Tryd.prog 40 _ (ReflectliteValue.method (ReflectliteValue.valueError "reflectlite.Value.IsNil" 0) ReflectliteValue.isNil) Tryd.func40 (by kernel_rfl) (by kernel_rfl) (by kernel_rfl) (by kernel_rfl)
  have h27 := @run_callFunc_extern Tryd.prog 59 _ (ReflectliteType.abiMethod fun t => do pure (.int .u8 (← Rtype.kind t))) Tryd.func59 (by kernel_rfl) (by kernel_rfl) (by kernel_rfl) (by kernel_rfl)
  have h37 := @run_callFunc_extern Tryd.prog 69 _ (ReflectliteType.method ReflectliteType.elem) Tryd.func69 (by kernel_rfl) (by kernel_rfl) (by kernel_rfl) (by kernel_rfl)
  have h38 := @run_callFunc_extern Tryd.prog 70 _ (ReflectliteType.relation "Implements" ReflectliteType.implements_) Tryd.func70 (by kernel_rfl) (by kernel_rfl) (by kernel_rfl) (by kernel_rfl)
  have h10 := @run_callFunc_extern Tryd.prog 42 _ ReflectliteType.typeOf Tryd.func42 (by kernel_rfl) (by kernel_rfl) (by kernel_rfl) (by kernel_rfl)
  have h35 := @run_callFunc_extern Tryd.prog 67 _ (ReflectliteType.relation "AssignableTo" ReflectliteType.assignableTo) Tryd.func67 (by kernel_rfl) (by kernel_rfl) (by kernel_rfl) (by kernel_rfl)
  have h11 := @run_callFunc_extern Tryd.prog 43 _ (ReflectliteValue.method (ReflectliteValue.valueError "reflectlite.Value.Elem" 0) ReflectliteValue.elem) Tryd.func43 (by kernel_rfl) (by kernel_rfl) (by kernel_rfl) (by kernel_rfl)
  have h12 := @run_callFunc_extern Tryd.prog 44 _ ReflectliteValue.set Tryd.func44 (by kernel_rfl) (by kernel_rfl) (by kernel_rfl) (by kernel_rfl)
  have tO := Tryd.asTypeOfS
  have mA := Tryd.asMethodAssignableTo
  have a25 := Tryd.asAssignableS
  have v25 := Tryd.asValueOfS
  have f6 := Tryd.asValueOfP
  have f7 := Tryd.asTypeP
  have mK := Tryd.asMethodKind
  have mE := Tryd.asMethodElem
  have mI := Tryd.asMethodImplements
  have k27 := Tryd.asKindP
  have k25 := Tryd.asKindS
  have e27 := Tryd.asElemP
  have i25 := Tryd.asImplementsS
  have n8 := Tryd.asIsNilP ⟨w.heap.size, 0, none⟩ t ((w.alloc (.cells #[.pointer (some t)] 63)).alloc (.cells #[.pointer (some ⟨1, 63, none⟩), .pointer (some ⟨w.heap.size, 0, none⟩), .int .u64 150] 68)) (by simp)
  have hlt : 0 < w.heap.size := by
    rcases Nat.lt_or_ge 0 w.heap.size with h0 | h0
    · exact h0
    · simp [World.cell?, Array.getElem?_eq_none h0] at hg
  have hg2 : ((w.alloc (.cells #[.pointer (some t)] 63)).alloc (.cells #[.pointer (some ⟨1, 63, none⟩), .pointer (some ⟨w.heap.size, 0, none⟩), .int .u64 150] 68)).cell? ⟨0, 0, none⟩ = some (.iface 79 (.agg #[.pointer (some ⟨1, 58, none⟩)])) := by
    rw [World.cell?_alloc_lt _ _ ⟨0, 0, none⟩ (Nat.lt_of_lt_of_le hlt (by simp)), World.cell?_alloc_lt _ _ ⟨0, 0, none⟩ hlt]; exact hg
  have htl : t.block < w.heap.size := by
    rcases Nat.lt_or_ge t.block w.heap.size with h | h
    · exact h
    · simp [World.cell?, Array.getElem?_eq_none h] at ht0
  have el := Tryd.asElemV ⟨w.heap.size, 0, none⟩ t (((w.alloc (.cells #[.pointer (some t)] 63)).alloc (.cells #[.pointer (some ⟨1, 63, none⟩), .pointer (some ⟨w.heap.size, 0, none⟩), .int .u64 150] 68)).alloc (.cells #[.pointer (some ⟨1, 63, none⟩), .pointer (some ⟨w.heap.size, 0, none⟩), .int .u64 150] 68)) (by rw [World.cell?_alloc_lt _ _ ⟨w.heap.size, 0, none⟩ (by simp; omega)]; simp)
  have st := Tryd.asSetS t ⟨w.heap.size + 1 + 1 + 1, 0, none⟩ s old ((((w.alloc (.cells #[.pointer (some t)] 63)).alloc (.cells #[.pointer (some ⟨1, 63, none⟩), .pointer (some ⟨w.heap.size, 0, none⟩), .int .u64 150] 68)).alloc (.cells #[.pointer (some ⟨1, 63, none⟩), .pointer (some ⟨w.heap.size, 0, none⟩), .int .u64 150] 68)).alloc (.cells #[.string s] 61))
    (by rw [World.cell?_alloc_at _ _ _ _ (by simp)]; rfl)
    (by rw [World.cell?_alloc_lt _ _ t (by simp; omega), World.cell?_alloc_lt _ _ t (by simp; omega), World.cell?_alloc_lt _ _ t (by simp; omega), World.cell?_alloc_lt _ _ t htl]; exact ht0)
    (by rw [World.frozen?_alloc_old _ _ t (by simp; omega), World.frozen?_alloc_old _ _ t (by simp; omega), World.frozen?_alloc_old _ _ t (by simp; omega), World.frozen?_alloc_old _ _ t (Nat.ne_of_lt htl)]; exact hf0)
  go_enter Tryd.func36, Tryd.ntmps36
  go_wp2
  refine wp_loop_rounds 1 ?_
  rw [rounds_succ]
  go_wp2
  go_ret
  exact ⟨rfl, rfl⟩

theorem isNo_nil (w : World) : Calls Tryd.prog 33 #[.nilIface] w fun e w' => e = .returned (.bool false) ∧ Below w.heap.size w w' := by
  go_enter Tryd.func33, Tryd.ntmps33
  go_wp2_with fail
  refine (as_nil _ _).mono ?_
  rintro e w' ⟨rfl, rfl⟩
  go_wp2
  go_ret
  exact ⟨rfl, (Below.refl _ _).alloc (Nat.le_refl _) _⟩

set_option maxHeartbeats 1000000 in
theorem isNo_hit (s : ByteArray) (w : World) (hg : ErrT w) : Calls Tryd.prog 33 #[.iface 61 (.agg #[.string s])] w fun e w' => e = .returned (.bool true) ∧ Below w.heap.size w w' := by
  have hgA : ErrT (w.alloc (.cells #[.string ⟨#[]⟩] 61)) := hg.keep ((Below.refl _ _).alloc (Nat.le_refl _) _)
  go_enter Tryd.func33, Tryd.ntmps33
  go_wp2_with fail
  refine (as_hit s ⟨w.heap.size, 0, none⟩ (.string ⟨#[]⟩) _ hgA (by simp) (by simp)).mono ?_
  rintro e w' ⟨rfl, rfl⟩
  go_wp2
  go_ret
  refine ⟨rfl, ?_⟩
  exact (((((Below.refl _ _).alloc (Nat.le_refl _) _).alloc (by simp) _).alloc (by simp; omega) _).alloc (by simp; omega) _).alloc (by simp; omega) _
end Go.Proofs.YtgbpnepipknjnabDoor

/- When an object is right; the walks of impl.partsOk, impl.checkObj and impl.ObjOk. -/
namespace Go.Proofs.YtgbpnepipknjnabDoor
open Go.RowKit

def partsB (l : List Int) (least most : Int) : Bool := decide (l.length ≤ 5) && l.all (fun z => inB z least most)
theorem partsB_at {l : List Int} {least most : Int} (j : Nat) (hj : j < l.length) (h : inB (l.getD j 0) least most = false) : partsB l least most = false := by
  have : (l.all (fun z => inB z least most)) = false := by
    rw [List.all_eq_false]
    exact ⟨l.getD j 0, by simp [List.getD, hj], by rw [h]; decide⟩
  simp [partsB, this]
theorem partsB_all {l : List Int} {least most : Int} (h : ∀ j, j < l.length → inB (l.getD j 0) least most = true) : partsB l least most = decide (l.length ≤ 5) := by
  have : (l.all (fun z => inB z least most)) = true := by
    rw [List.all_eq_true]
    intro z hz
    obtain ⟨j, hj, rfl⟩ := List.getElem_of_mem hz
    have := h j hj
    simpa [List.getD, hj] using this
  simp [partsB, this]
theorem okB_parts (o : ObjV) : okB o = (inB o.kind 1 99 && (partsB o.ints (-1000000) 1000000 && partsB o.refs 0 31)) := by
  unfold okB partsB
  cases inB o.kind 1 99 <;> cases decide (o.ints.length ≤ 5) <;> cases decide (o.refs.length ≤ 5) <;> cases o.ints.all (fun z => inB z (-1000000) 1000000) <;> simp

theorem inB_false {x l m : Int} (h : inB x l m = false) : x < l ∨ (¬ x < l ∧ m < x) := by simp [inB] at h; omega
theorem inB_true {x l m : Int} (h : inB x l m = true) : ¬ x < l ∧ ¬ m < x := by simp [inB] at h; omega

/-- What checkObj answers of what is right, and of what is not. -/
def IsErr (ok : Bool) (e : Ending) : Prop := (ok = true ∧ e = .returned .nilIface) ∨ (ok = false ∧ ∃ s, e = .returned (.iface 61 (.agg #[.string s])))
theorem isErr_ok {ok : Bool} (h : ok = true) : IsErr ok (.returned .nilIface) := .inl ⟨h, rfl⟩
theorem isErr_no {ok : Bool} (h : ok = false) (s : ByteArray) : IsErr ok (.returned (.iface 61 (.agg #[.string s]))) := .inr ⟨h, s, rfl⟩

set_option maxHeartbeats 400000 in
theorem partsOk_any (a : Option Addr) (c : Nat) (l : List Int) (least most : Int) (w : World) (hr : ReadsI w a l) (hl : l.length ≤ 140737488355328) :
    Calls Tryd.prog 37 #[.slice a l.length c, .int .i64 least, .int .i64 most] w fun e w' => e = .returned (.bool (partsB l least most)) ∧ w' = w := by
  go_enter Tryd.func37, Tryd.ntmps37
  go_wp2
  go_loop [11] (fun i => ∃ j : Nat, j ≤ l.length ∧ i = .int .i64 j ∧ Hid (∀ t, t < j → inB (l.getD t 0) least most = true)) (fun i => l.length - (intOf i).toNat)
  case atStart => exact ⟨0, by omega, rfl, fun t ht => by omega⟩
  case round =>
    obtain ⟨j, hj, rfl, hall⟩ := hrel
    by_cases hlt : j < l.length
    · rcases hr.cases with rfl | ⟨b, off, rfl, hpos, hcell⟩
      · simp at hlt
      have hc := hcell j hlt
      clear hcell
      cases hz : inB (l.getD j 0) least most with
      | false =>
        have HE : Hid (partsB l least most = false) := partsB_at j hlt hz
        have hz' := inB_false hz
        clear hz
        generalize l.getD j 0 = z at *
        rcases hz' with h1 | ⟨h1, h2⟩
        all_goals
          go_wp2
          go_ret
          exact ⟨ret_bool HE.out.symm, rfl⟩
      | true =>
        have HN : Hid (∀ t, t < j + 1 → inB (l.getD t 0) least most = true) := by
          intro t ht
          by_cases e : t = j
          · rw [e]; exact hz
          · exact hall.out t (by omega)
        obtain ⟨h1, h2⟩ := inB_true hz
        clear hz
        generalize l.getD j 0 = z at *
        go_wp2
        go_round
        case rel => exact ⟨j + 1, by omega, by go_num, HN⟩
        case measure => simp [intOf]; omega
    · have HE : Hid (partsB l least most = decide (l.length ≤ 5)) := partsB_all (fun t ht => hall.out t (by omega))
      go_wp2
      go_ret
      exact ⟨ret_bool (by rw [HE.out]; exact decide_eq_decide.2 (by omega)), rfl⟩

set_option maxHeartbeats 1000000 in
set_option maxRecDepth 100000 in
theorem checkObj_any (o : ObjV) (aI : Option Addr) (cI : Nat) (aR : Option Addr) (cR : Nat) (w : World) (hr : ReadsO w aI cI aR cR o) (hnI : o.ints.length ≤ 140737488355328) (hnR : o.refs.length ≤ 140737488355328) :
    Calls Tryd.prog 34 #[.agg #[.int .i64 o.kind, .slice aI o.ints.length cI, .slice aR o.refs.length cR]] w fun e w' => IsErr (okB o) e ∧ Below w.heap.size w w' := by
  have HOK := okB_parts o
  generalize okB o = OK at *
  obtain ⟨k, ints, refs⟩ := o
  obtain ⟨hI, hR, _, _⟩ := hr
  simp only at *
  obtain ⟨W, hW, b0, hbW, hsW⟩ := boxes1 w [.int .i64 k, .slice aI ints.length cI, .slice aR refs.length cR] 40
  have hI' := hI.below hbW
  have hR' := hR.below hbW
  have x0 := b0.cell 0 _ rfl
  have x1 := b0.cell 1 _ rfl
  have x2 := b0.cell 2 _ rfl
  cases hk : inB k 1 99 with
  | false =>
    have HF : Hid (OK = false) := by rw [Hid, HOK, hk, Bool.false_and]
    clear HOK
    have hz' := inB_false hk
    clear hk
    rcases hz' with h1 | ⟨h1, h2⟩
    all_goals
      go_enter Tryd.func34, Tryd.ntmps34
      go_wp2
      go_ret
      exact ⟨isErr_no HF.out _, hW.out ▸ hbW⟩
  | true =>
  rw [hk, Bool.true_and] at HOK
  obtain ⟨h1, h2⟩ := inB_true hk
  clear hk
  cases hp : partsB ints (-1000000) 1000000 with
  | false =>
    have HF : Hid (OK = false) := by rw [Hid, HOK, hp, Bool.false_and]
    clear HOK
    have HP : Hid (_ = _) := hp
    clear hp
    go_enter Tryd.func34, Tryd.ntmps34
    go_wp2_with fail
    rw [hW.out]
    refine (partsOk_any aI cI ints _ _ W hI' hnI).mono ?_
    rintro e w' ⟨rfl, rfl⟩
    rw [HP.out]
    go_wp2
    go_ret
    exact ⟨isErr_no HF.out _, hbW⟩
  | true =>
  rw [hp, Bool.true_and] at HOK
  have HP : Hid (_ = _) := hp
  clear hp
  cases hq : partsB refs 0 31 with
  | false =>
    have HF : Hid (OK = false) := by rw [Hid, HOK, hq]
    clear HOK
    have HQ : Hid (_ = _) := hq
    clear hq
    go_enter Tryd.func34, Tryd.ntmps34
    go_wp2_with fail
    rw [hW.out]
    refine (partsOk_any aI cI ints _ _ W hI' hnI).mono ?_
    rintro e w' ⟨rfl, rfl⟩
    rw [HP.out]
    go_wp2_with fail
    refine (partsOk_any aR cR refs _ _ _ hR' hnR).mono ?_
    rintro e w' ⟨rfl, rfl⟩
    rw [HQ.out]
    go_wp2
    go_ret
    exact ⟨isErr_no HF.out _, hbW⟩
  | true =>
    have HF : Hid (OK = true) := by rw [Hid, HOK, hq]
    clear HOK
    have HQ : Hid (_ = _) := hq
    clear hq
    go_enter Tryd.func34, Tryd.ntmps34
    go_wp2_with fail
    rw [hW.out]
    refine (partsOk_any aI cI ints _ _ W hI' hnI).mono ?_
    rintro e w' ⟨rfl, rfl⟩
    rw [HP.out]
    go_wp2_with fail
    refine (partsOk_any aR cR refs _ _ _ hR' hnR).mono ?_
    rintro e w' ⟨rfl, rfl⟩
    rw [HQ.out]
    go_wp2
    go_ret
    exact ⟨isErr_ok HF.out, hbW⟩

set_option maxHeartbeats 1000000 in
set_option maxRecDepth 100000 in
theorem implObjOk_any (o : ObjV) (aI : Option Addr) (cI : Nat) (aR : Option Addr) (cR : Nat) (w : World) (hg : ErrT w) (hr : ReadsO w aI cI aR cR o) (hnI : o.ints.length ≤ 140737488355328) (hnR : o.refs.length ≤ 140737488355328) :
    Calls Tryd.prog 31 #[.agg #[.int .i64 o.kind, .slice aI o.ints.length cI, .slice aR o.refs.length cR]] w fun e w' => e = .returned (.bool (okB o)) ∧ Below w.heap.size w w' := by
  obtain ⟨W, hW, b0, hbW, hsW⟩ := boxes1 w [.int .i64 o.kind, .slice aI o.ints.length cI, .slice aR o.refs.length cR] 40
  have hr' := hr.below hbW
  have hg' := hg.keep hbW
  have x0 := b0.cell 0 _ rfl
  have x1 := b0.cell 1 _ rfl
  have x2 := b0.cell 2 _ rfl
  go_enter Tryd.func31, Tryd.ntmps31
  go_wp2_with fail
  rw [hW.out]
  refine (checkObj_any o aI cI aR cR W hr' hnI hnR).mono ?_
  rintro e w1 ⟨he, hb1⟩
  have B1 : Below w.heap.size w w1 := hbW.trans (hb1.mono hbW.size)
  rcases he with ⟨hok, rfl⟩ | ⟨hok, s, rfl⟩
  · have HO : Hid (_ = _) := hok
    clear hok
    go_wp2_with fail
    refine (isNo_nil w1).mono ?_
    rintro e w2 ⟨rfl, hb2⟩
    go_wp2
    go_ret
    exact ⟨by rw [HO.out]; rfl, B1.trans (hb2.mono B1.size)⟩
  · have HO : Hid (_ = _) := hok
    clear hok
    go_wp2_with fail
    refine (isNo_hit s w1 (hg'.keep hb1)).mono ?_
    rintro e w2 ⟨rfl, hb2⟩
    go_wp2
    go_ret
    exact ⟨by rw [HO.out]; rfl, B1.trans (hb2.mono B1.size)⟩
end Go.Proofs.YtgbpnepipknjnabDoor

/- The walks of impl.slotHas, impl.slotOk and impl.markSlots over either; a slot of a row taken out by its number. -/
namespace Go.Proofs.YtgbpnepipknjnabDoor
open Go.RowKit

theorem slotB_same {s : SlotV} (h : s.has = false) : slotB s = sameO s.o noO := by
  obtain ⟨b, k, i, r⟩ := s
  simp only at h
  subst h
  show slotB ⟨false, k, i, r⟩ = (decide (k = (0 : Int)) && (decide (i = ([] : List Int)) && decide (r = ([] : List Int))))
  rw [Bool.eq_iff_iff]
  simp [slotB]

set_option maxHeartbeats 400000 in
set_option maxRecDepth 100000 in
theorem slotOk_any (s : SlotA) (w : World) (hg : ErrT w) (hr : s.reads w) (hl : Fit [s]) :
    Calls Tryd.prog 28 #[.agg s.cells.toArray] w fun e w' => e = .returned (.bool (slotB s.v)) ∧ Below w.heap.size w w' := by
  obtain ⟨h1, h2⟩ := hl s (List.mem_singleton.2 rfl)
  obtain ⟨W, hW, b0, hbW, hsW⟩ := boxes1 w s.cells 42
  have hr' : s.reads W := ReadsO.below hr hbW
  have hg' := hg.keep hbW
  have HT : Hid (s.v.has = true → slotB s.v = okB s.v.o) := fun h => slotB_has h
  have HF : Hid (s.v.has = false → slotB s.v = sameO s.v.o noO) := fun h => slotB_same h
  have hno : ReadsO W none 0 none 0 noO := ⟨fun h => absurd rfl h, fun h => absurd rfl h, fun _ => rfl, fun _ => rfl⟩
  have C1 := implObjOk_any s.v.o s.aI s.cI s.aR s.cR W hg' hr' (by omega) (by omega)
  have C2 := implSameObj_any s.v.o noO s.aI s.cI s.aR s.cR none 0 none 0 W hr' hno (by omega) (by omega) (by simp [noO]) (by simp [noO])
  simp only [noO] at C2
  generalize slotB s.v = R at *
  simp only [SlotA.cells] at *
  cases hh : s.v.has with
  | true =>
    have HE : Hid (_ = _) := HT.out hh
    rw [hh] at hW
    clear hh C2 HT HF
    go_enter Tryd.func28, Tryd.ntmps28
    go_wp2_with fail
    rw [hW.out]
    refine C1.mono ?_
    rintro e w1 ⟨rfl, hb1⟩
    go_wp2
    go_ret
    exact ⟨ret_bool HE.out.symm, hbW.trans (hb1.mono hbW.size)⟩
  | false =>
    have HE : Hid (_ = _) := HF.out hh
    rw [hh] at hW
    clear hh C1 HT HF
    go_enter Tryd.func28, Tryd.ntmps28
    go_wp2_with fail
    rw [hW.out]
    refine C2.mono ?_
    rintro e w1 ⟨rfl, hb1⟩
    go_wp2
    go_ret
    exact ⟨ret_bool HE.out.symm, hbW.trans (hb1.mono hbW.size)⟩

end Go.Proofs.YtgbpnepipknjnabDoor

/- The walks of impl.allSlotsOk, ViewOk. -/
namespace Go.Proofs.YtgbpnepipknjnabDoor
open Go.RowKit

set_option maxHeartbeats 1000000 in
set_option maxRecDepth 100000 in
theorem allSlotsOk_any (a : Option Addr) (c : Nat) (ss : List SlotA) (w : World) (hg : ErrT w) (hr : ReadsVw w a ss) (hl : ss.length ≤ 1099511627776) (hf : Fit ss) :
    Calls Tryd.prog 23 #[.slice a ss.length c] w fun e w' => e = .returned (.bool ((vsOf ss).all slotB)) ∧ Below w.heap.size w w' := by
  have HC : Hid (∀ u, Below w.heap.size w u → ∀ k, k < ss.length → ∃ b off, a = some ⟨b, off, none⟩ ∧ u.rangeAt b (off + k * 4) (ss.getD k zeroS).cells ∧ (ss.getD k zeroS).reads u ∧ Fit [ss.getD k zeroS] ∧ ErrT u) := fun u hu k hk => by
    obtain ⟨b, off, ha, hc⟩ := (hr.below hu) (by intro e; rw [e] at hk; simp at hk)
    exact ⟨b, off, ha, (hc k hk).1, (hc k hk).2, hf.one hk, hg.keep hu⟩
  have HL := vsOf_len ss
  have HHIT : Hid (∀ k, k < ss.length → slotB (ss.getD k zeroS).v = false → (vsOf ss).all slotB = false) := fun k hk h => all_hit (z := noS) (k := k) (by omega) (by rw [vsOf_at]; exact h)
  have HSTEP : Hid (∀ k, k < ss.length → ((vsOf ss).take k).all slotB = true → slotB (ss.getD k zeroS).v = true → ((vsOf ss).take (k + 1)).all slotB = true) := fun k hk h h1 => all_step (z := noS) (by omega) h (by rw [vsOf_at]; exact h1)
  have HEND : Hid (∀ k, ¬ k < ss.length → ((vsOf ss).take k).all slotB = true → (vsOf ss).all slotB = true) := fun k hk h => all_end (by omega) h
  clear hr hf HL hg
  generalize (vsOf ss).all slotB = R at *
  generalize vsOf ss = L at *
  go_enter Tryd.func23, Tryd.ntmps23
  go_wp2
  go_loopw [7] (fun i wr => ∃ k : Nat, k ≤ ss.length ∧ i = .int .i64 k ∧ Hid ((L.take k).all slotB = true) ∧ Below w.heap.size w wr) (fun i _ => ss.length - (intOf i).toNat)
  case atStart => exact ⟨0, Nat.zero_le _, rfl, (show (L.take 0).all slotB = true by simp), Below.refl _ _⟩
  case round =>
    obtain ⟨k, hk, rfl, hall, hbl⟩ := hrel
    by_cases hlt : k < ss.length
    · obtain ⟨b, off, rfl, hra, hrz, hfz, hgz⟩ := HC.out wr hbl k hlt
      have HH1 : Hid (slotB (ss.getD k zeroS).v = false → R = false) := fun h => HHIT.out k hlt h
      have HH2 : Hid (slotB (ss.getD k zeroS).v = true → (L.take (k + 1)).all slotB = true) := fun h => HSTEP.out k hlt hall.out h
      clear HC HHIT HSTEP HEND hall
      generalize ss.getD k zeroS = z at *
      obtain ⟨V, hV, bz, hbV, hsV⟩ := boxes1 wr z.cells 42
      have C := slotOk_any z V (hgz.keep hbV) (ReadsO.below hrz hbV) hfz
      have hB : Below w.heap.size w V := hbl.trans (hbV.mono hbl.size)
      simp only [SlotA.cells] at hV bz hra C
      have c0 := hra 0 _ rfl
      have c1 := hra 1 _ rfl
      have c2 := hra 2 _ rfl
      have c3 := hra 3 _ rfl
      rw [Nat.add_zero] at c0
      obtain ⟨q0, q1, q2, q3, _⟩ := bz.four
      generalize slotB z.v = zb at *
      clear hsV hbV hra hrz hfz hgz bz
      cases zb with
      | false =>
        have HR : Hid (R = false) := HH1.out rfl
        clear HH1 HH2
        go_wp2_with fail
        rw [hV.out]
        go_wp2_with fail
        refine C.mono ?_
        rintro e w1 ⟨rfl, hb1⟩
        go_wp2
        go_ret
        exact ⟨ret_bool HR.out.symm, hB.trans (hb1.mono hB.size)⟩
      | true =>
        have HN : Hid ((L.take (k + 1)).all slotB = true) := HH2.out rfl
        clear HH1 HH2
        go_wp2_with fail
        rw [hV.out]
        go_wp2_with fail
        refine C.mono ?_
        rintro e w1 ⟨rfl, hb1⟩
        have hB1 : Below w.heap.size w w1 := hB.trans (hb1.mono hB.size)
        clear C hV hb1 hB
        go_wp2_with fail
        go_roundw
        case rel => exact ⟨k + 1, by omega, by go_num, HN, hB1⟩
        case measure => simp [intOf]; omega
    · have HR : Hid (R = true) := HEND.out k hlt hall.out
      clear HC HHIT HSTEP HEND hall
      go_wp2
      go_ret
      exact ⟨ret_bool HR.out.symm, hbl⟩

set_option maxHeartbeats 1000000 in
set_option maxRecDepth 100000 in
theorem implViewOk_any (a : Option Addr) (c : Nat) (ss : List SlotA) (w : World) (hg : ErrT w) (hr : ReadsVw w a ss) (hl : ss.length ≤ 1099511627776) (hf : Fit ss) :
    Calls Tryd.prog 16 #[.slice a ss.length c] w fun e w' => e = .returned (.bool (viewB (vsOf ss))) ∧ Below w.heap.size w w' := by
  have C := allSlotsOk_any a c ss w hg hr hl hf
  by_cases h32 : ss.length = 32
  · have HV : Hid (viewB (vsOf ss) = (!(ss.getD 0 zeroS).v.has && (vsOf ss).all slotB)) := by
      rw [Hid, viewB_zero (by rw [vsOf_len]; exact h32), vsOf_at]
    obtain ⟨b, off, rfl, hc⟩ := hr (by intro e; rw [e] at h32; simp at h32)
    have hra := (hc 0 (by omega)).1
    rw [Nat.zero_mul, Nat.add_zero] at hra
    generalize viewB (vsOf ss) = R at *
    generalize (vsOf ss).all slotB = B at *
    generalize ss.getD 0 zeroS = z at *
    have c0 : w.cell? ⟨b, off, none⟩ = some (.bool z.v.has) := hra 0 _ rfl
    rw [h32] at C ⊢
    clear hc hra h32 hl hf hr hg
    generalize z.v.has = zb at *
    cases zb with
    | true =>
      have HR : Hid (R = false) := HV.out
      clear HV C
      go_enter Tryd.func16, Tryd.ntmps16
      go_wp2
      go_ret
      exact ⟨ret_bool HR.out.symm, Below.refl _ _⟩
    | false =>
      have HR : Hid (R = B) := HV.out
      clear HV
      go_enter Tryd.func16, Tryd.ntmps16
      go_wp2_with fail
      refine C.mono ?_
      rintro e w1 ⟨rfl, hb1⟩
      go_wp2
      go_ret
      exact ⟨ret_bool HR.out.symm, hb1⟩
  · have HR : Hid (viewB (vsOf ss) = false) := viewB_len (by rw [vsOf_len]; exact h32)
    have hne : ((ss.length : Int) == 32) = false := by rw [beq_eq_false_iff_ne]; omega
    generalize viewB (vsOf ss) = R at *
    clear C hf hr hg
    go_enter Tryd.func16, Tryd.ntmps16
    go_wp2
    go_ret
    exact ⟨ret_bool HR.out.symm, Below.refl _ _⟩
end Go.Proofs.YtgbpnepipknjnabDoor

/- The walk of impl.Dangling. -/
namespace Go.Proofs.YtgbpnepipknjnabDoor
open Go.RowKit

theorem view_hasD {w0 u : World} {b off : Nat} {ss : List SlotA} (hr : ReadsVw w0 (some ⟨b, off, none⟩) ss) (h32 : ss.length = 32) (hu : Below w0.heap.size w0 u) (k : Nat) (hk : k < 32) : u.cell? ⟨b, off + k * 4, none⟩ = some (.bool (hasM (vsOf ss) k)) := by
  obtain ⟨b', off', e, hc⟩ := (hr.below hu) (by intro e; rw [e] at h32; simp at h32)
  simp only [Option.some.injEq, Addr.mk.injEq, and_true] at e
  obtain ⟨rfl, rfl⟩ := e
  rw [hasM, Int.toNat_natCast, vsOf_at]
  exact (hc k (by omega)).1 0 _ rfl
theorem view_slotD {w0 : World} {b off : Nat} {ss : List SlotA} (hr : ReadsVw w0 (some ⟨b, off, none⟩) ss) (h32 : ss.length = 32) (k : Nat) (hk : k < 32) :
    ∃ hs kd aI nI cI aR cR, ∀ u, Below w0.heap.size w0 u → u.cell? ⟨b, off + k * 4, none⟩ = some (.bool hs) ∧ u.cell? ⟨b, off + k * 4 + 1, none⟩ = some (.int .i64 kd) ∧ u.cell? ⟨b, off + k * 4 + 2, none⟩ = some (.slice aI nI cI) ∧ u.cell? ⟨b, off + k * 4 + 3, none⟩ = some (.slice aR (refsM (vsOf ss) k).length cR) ∧ ReadsI u aR (refsM (vsOf ss) k) := by
  refine ⟨(ss.getD k zeroS).v.has, (ss.getD k zeroS).v.o.kind, (ss.getD k zeroS).aI, (ss.getD k zeroS).v.o.ints.length, (ss.getD k zeroS).cI, (ss.getD k zeroS).aR, (ss.getD k zeroS).cR, fun u hu => ?_⟩
  obtain ⟨b', off', e, hc⟩ := (hr.below hu) (by intro e; rw [e] at h32; simp at h32)
  simp only [Option.some.injEq, Addr.mk.injEq, and_true] at e
  obtain ⟨rfl, rfl⟩ := e
  obtain ⟨h1, h2⟩ := hc k (by omega)
  rw [refsM, Int.toNat_natCast, vsOf_at]
  exact ⟨h1 0 _ rfl, h1 1 _ rfl, h1 2 _ rfl, h1 3 _ rfl, h2.refs⟩
theorem mem_getDD {F : List Int} {n : Nat} (h : n < F.length) : F.getD n 0 ∈ F := by simp [List.getD, h]

set_option maxHeartbeats 4000000 in
set_option maxRecDepth 100000 in
theorem implDangling_any (a : Option Addr) (c : Nat) (ss : List SlotA) (w : World) (hg : ErrT w) (hr : ReadsVw w a ss) (hl : ss.length ≤ 1099511627776) (hf : Fit ss) :
    Calls Tryd.prog 7 #[.slice a ss.length c] w fun e w' => DangAns w (dangV (vsOf ss)) e w' := by
  obtain ⟨V, HVV, _, hbV, hsV⟩ := boxes1 w [] 43
  have HDV : Hid (DgI w V (some ⟨w.heap.size, 0, none⟩) 0 []) := by
    refine ⟨?_, hbV⟩
    have := (ownD2_lit0 w).widen (lo' := w.heap.size) (hi' := (w.alloc (.cells #[] 43)).heap.size) (Nat.le_refl _) (by simp) (Nat.le_refl _)
    rw [← HVV.out]
    exact this
  have C := implViewOk_any a c ss V (hg.keep hbV) (hr.below hbV) hl hf
  cases hvb : viewB (vsOf ss) with
  | false =>
    rw [hvb] at C
    have HR : Hid (dangV (vsOf ss) = []) := by rw [Hid, dangV, hvb]; rfl
    rw [HR.out]
    clear hvb HR hr hf hg hsV
    go_enter Tryd.func7, Tryd.ntmps7
    go_upto_region 2 with fail
    rw [HVV.out]
    clear HVV
    go_wp2_with fail
    refine C.mono ?_
    rintro e w1 ⟨rfl, hb1⟩
    have HA : Hid (DangAns w [] (.returned (.slice (some ⟨w.heap.size, 0, none⟩) 0 0)) w1) := ⟨_, _, rfl, (HDV.out.below hb1).own, (HDV.out.below hb1).bel⟩
    clear C
    go_wp2_with fail
    go_ret
    exact HA.out
  | true =>
    rw [hvb] at C
    have h32 : ss.length = 32 := by have := viewB_len32 hvb; rwa [vsOf_len] at this
    obtain ⟨b, off, rfl, _⟩ := hr (by intro e; rw [e] at h32; simp at h32)
    have HR : Hid (dangV (vsOf ss) = dangTo (vsOf ss) 32) := by rw [Hid, dangV, hvb]; rfl
    have HH : Hid (∀ u, Below w.heap.size w u → ∀ k : Nat, k < 32 → u.cell? ⟨b, off + k * 4, none⟩ = some (.bool (hasM (vsOf ss) k))) := fun u hu k hk => view_hasD hr h32 hu k hk
    have HS : Hid (∀ k : Nat, k < 32 → ∃ hs kd aI nI cI aR cR, ∀ u, Below w.heap.size w u → u.cell? ⟨b, off + k * 4, none⟩ = some (.bool hs) ∧ u.cell? ⟨b, off + k * 4 + 1, none⟩ = some (.int .i64 kd) ∧ u.cell? ⟨b, off + k * 4 + 2, none⟩ = some (.slice aI nI cI) ∧ u.cell? ⟨b, off + k * 4 + 3, none⟩ = some (.slice aR (refsM (vsOf ss) k).length cR) ∧ ReadsI u aR (refsM (vsOf ss) k)) := fun k hk => view_slotD hr h32 k hk
    have HRG : Hid (RngM (vsOf ss)) := viewB_rng hvb
    have HLN : Hid (∀ i, (refsM (vsOf ss) i).length ≤ 5) := viewB_refs hvb
    have HTL : Hid (∀ n, (dangTo (vsOf ss) n).length ≤ 5 * n) := dangTo_len (viewB_refs hvb)
    rw [HR.out]
    rw [h32] at C ⊢
    clear hvb HR hr hf hg h32 hl hsV
    generalize vsOf ss = vs at *
    obtain ⟨FIN, HFIN⟩ : ∃ FIN, Hid (dangTo vs 32 = FIN) := ⟨_, rfl⟩
    rw [HFIN.out]
    go_enter Tryd.func7, Tryd.ntmps7
    go_upto_region 2 with fail
    rw [HVV.out]
    clear HVV
    go_wp2_with fail
    refine C.mono ?_
    rintro e w1 ⟨rfl, hb1⟩
    have HD1 : Hid (DgI w w1 (some ⟨w.heap.size, 0, none⟩) 0 (dangTo vs 0)) := HDV.out.below hb1
    clear C hb1 HDV hbV
    go_wp2_with fail
    go_loopw [3, 15] (fun v3 i wr => ∃ (n : Nat) (L : List PairV) (a : Option Addr) (c : Nat), n ≤ 32 ∧ L.length ≤ 160 ∧ i = .int .i64 n ∧ v3 = .slice a L.length c ∧ Hid (DgI w wr a c L ∧ dangTo vs n = L)) (fun _ i _ => 32 - (intOf i).toNat)
    case atStart => exact ⟨0, [], _, _, by omega, by simp, rfl, rfl, HD1.out, rfl⟩
    case round =>
      obtain ⟨n, L, a3, c3, hn, hL, rfl, rfl, hI⟩ := hrel
      clear HD1
      by_cases hlt : n < 32
      · obtain ⟨hs, kd, aI, nI, cI, aR, cR, hcl⟩ := HS.out n hlt
        obtain ⟨v0, v1, v2, v3, _⟩ := hcl wr hI.out.1.bel
        have HFV : Hid (∀ u, Below w.heap.size w u → ReadsI u aR (refsM vs n)) := fun u hu => (hcl u hu).2.2.2.2
        obtain ⟨U, hU, bz, hbU, hsU⟩ := boxes1 wr [.bool hs, .int .i64 kd, .slice aI nI cI, .slice aR (refsM vs n).length cR] 42
        have y3 := bz.cell 3 _ rfl
        have HFI : Hid (_) := HRG.out n
        have HFL := HLN.out n
        have HNX : Hid (dangTo vs (n + 1) = L ++ dangIn vs n (refsM vs n) ∧ (dangTo vs (n + 1)).length ≤ 160) := ⟨by rw [← hI.out.2]; rfl, by have := HTL.out (n + 1); omega⟩
        have HDU : Hid (DgI w U a3 c3 (L ++ dangIn vs n ((refsM vs n).take 0))) := by
          have : dangIn vs n ((refsM vs n).take 0) = [] := rfl
          rw [this, List.append_nil]
          exact hI.out.1.below hbU
        have HL5 : Hid (L.length ≤ 5 * n) := by rw [Hid, ← hI.out.2]; exact HTL.out n
        have HIL : Hid (∀ F', (dangIn vs n F').length ≤ F'.length) := fun F' => dangIn_len vs n F'
        generalize refsM vs n = F at *
        clear hcl hI HS HRG HLN HTL bz hbU hsU
        have hnI : (n : Int) < 32 := by omega
        generalize wr = wo at *
        go_upto_region 7 with fail
        rw [hU.out]
        clear hU v0 v1 v2 v3
        go_wp2_with fail
        clear y3
        go_loopw [3, 24] (fun v3 i wr => ∃ (k : Nat) (M : List PairV) (a : Option Addr) (c : Nat), k ≤ F.length ∧ M.length ≤ 170 ∧ i = .int .i64 k ∧ v3 = .slice a M.length c ∧ Hid (DgI w wr a c M ∧ L ++ dangIn vs n (F.take k) = M)) (fun _ i _ => F.length - (intOf i).toNat)
        case atStart => exact ⟨0, L, a3, c3, Nat.zero_le _, by omega, rfl, rfl, by have := HDU.out; have e : dangIn vs n (F.take 0) = [] := rfl; rw [e, List.append_nil] at this; exact this, by have e : dangIn vs n (F.take 0) = [] := rfl; rw [e, List.append_nil]⟩
        case round =>
          obtain ⟨k, M, a4, c4, hk, hM, rfl, rfl, hJ⟩ := hrel
          clear HDU
          by_cases hkl : k < F.length
          · obtain ⟨bf, offf, rfl, hcf⟩ := HFV.out wr hJ.out.1.bel (by intro e; rw [e] at hkl; simp at hkl)
            have f0 := hcf k hkl
            obtain ⟨y, hye, hy32⟩ : ∃ y : Nat, F.getD k 0 = y ∧ y < 32 := by
              have := HFI.out _ (mem_getDD hkl)
              exact ⟨(F.getD k 0).toNat, by omega, by omega⟩
            have HST : Hid (L ++ dangIn vs n (F.take (k + 1)) = if dangB vs y = true then M ++ [⟨(n : Int), (y : Int)⟩] else M) := by
              have h1 := dangIn_step vs n F k hkl
              rw [hye] at h1
              rw [Hid, h1, ← hJ.out.2]
              split
              · rw [List.append_assoc]
              · rfl
            have HMB : Hid (M.length ≤ 5 * n + k) := by
              have h1 := HIL.out (F.take k)
              have h2 := congrArg List.length hJ.out.2
              rw [List.length_append] at h2
              rw [List.length_take] at h1
              have := HL5.out
              rw [Hid]; omega
            rw [hye] at f0
            have v0 := HH.out wr hJ.out.1.bel y hy32
            have hyI : (y : Int) < 32 := by omega
            have HJ : Hid (DgI w wr a4 c4 M) := hJ.out.1
            have HDB : Hid (dangB vs y = (decide (0 < (y : Int)) && !hasM vs y)) := rfl
            clear hcf hye hJ HFI HFV HH
            generalize hasM vs (y : Int) = hb at *
            by_cases hy0 : 0 < (y : Int)
            · have hyn : 0 < y := by omega
              cases hb with
              | true =>
                have HQ : Hid (DgI w wr a4 c4 M ∧ L ++ dangIn vs n (F.take (k + 1)) = M) := ⟨HJ.out, by rw [HST.out, HDB.out, decide_eq_true hy0]; rfl⟩
                clear HST HDB HJ
                go_wp2_with fail
                go_roundw
                case rel => exact ⟨k + 1, M, a4, c4, by omega, hM, by go_num, rfl, HQ⟩
                case measure => simp [intOf]; omega
              | false =>
                have HQ0 : Hid (L ++ dangIn vs n (F.take (k + 1)) = M ++ [⟨(n : Int), (y : Int)⟩]) := by rw [Hid, HST.out, HDB.out, decide_eq_true hy0]; rfl
                have hlo := HJ.out.bel.size
                have ho := HJ.out.own.below ((Below.refl _ _).alloc (Nat.le_refl _) (.cells #[.int .i64 (n : Int), .int .i64 (y : Int)] 43))
                have hM2 : M.length ≤ 170 := hM
                clear HST HDB
                go_wp2_with (first | (at_builtin; refine append_pairsF rfl _ _ rfl w.heap.size wr.heap.size a4 c4 M rfl ho _ _ [⟨(n : Int), (y : Int)⟩] rfl (readsD2_one wr ⟨(n : Int), (y : Int)⟩ _) (fun h => by cases h) (by simp; omega) (by simp; omega) ?_; intro a5 c5 y5 w5 hy5 ho5 hg5 hk5) | fail)
                have HQ : Hid ((DgI w w5 a5 c5 y5 ∧ L ++ dangIn vs n (F.take (k + 1)) = y5) ∧ y5.length ≤ 170) := by
                  refine ⟨⟨HJ.out.push ho5 hg5, by rw [HQ0.out, hy5.out]⟩, ?_⟩
                  rw [hy5.out]
                  simp
                  have := HMB.out
                  omega
                clear ho5 hg5 hk5 hy5 ho HJ HQ0
                go_roundw
                case rel => exact ⟨k + 1, y5, a5, c5, by omega, HQ.out.2, by go_num, rfl, HQ.out.1⟩
                case measure => simp [intOf]; omega
            · have HQ : Hid (DgI w wr a4 c4 M ∧ L ++ dangIn vs n (F.take (k + 1)) = M) := ⟨HJ.out, by rw [HST.out, HDB.out, decide_eq_false hy0]; rfl⟩
              obtain rfl : y = 0 := by omega
              clear HST HDB HJ hy0
              go_wp2_with fail
              go_roundw
              case rel => exact ⟨k + 1, M, a4, c4, by omega, hM, by go_num, rfl, HQ⟩
              case measure => simp [intOf]; omega
          · have HQ : Hid (DgI w wr a4 c4 M ∧ dangTo vs (n + 1) = M) := by
              refine ⟨hJ.out.1, ?_⟩
              have := hJ.out.2
              rw [List.take_of_length_le (by omega)] at this
              rw [HNX.out.1, this]
            have hM160 : M.length ≤ 160 := by rw [← HQ.out.2]; exact HNX.out.2
            clear hJ HFI HFV HH HNX
            go_wp2_with fail
            go_roundw
            case rel => exact ⟨n + 1, M, a4, c4, by omega, hM160, by go_num, rfl, HQ⟩
            case measure => simp [intOf]; omega
      · obtain rfl : n = 32 := by omega
        have HQ : Hid (DangAns w FIN (.returned (.slice a3 L.length c3)) wr) := by
          have e : L = FIN := by rw [← hI.out.2]; exact HFIN.out
          rw [← e]
          exact ⟨a3, c3, rfl, hI.out.1.own, hI.out.1.bel⟩
        clear hI HH HS HRG HLN HTL
        go_wp2_with fail
        go_ret
        exact HQ.out
end Go.Proofs.YtgbpnepipknjnabDoor

/- The walk of spec.Dangling. -/
namespace Go.Proofs.YtgbpnepipknjnabDoor
open Go.RowKit

set_option maxHeartbeats 4000000 in
set_option maxRecDepth 100000 in
theorem specDangling_any (a : Option Addr) (c : Nat) (ss : List SlotA) (w : World) (hr : ReadsVw w a ss) (hl : ss.length ≤ 1099511627776) (hf : Fit ss) :
    Calls Tryd.prog 5 #[.slice a ss.length c] w fun e w' => DangAns w (dangV (vsOf ss)) e w' := by
  obtain ⟨V, HVV, _, hbV, hsV⟩ := boxes1 w [] 43
  have HDV : Hid (DgI w V (some ⟨w.heap.size, 0, none⟩) 0 []) := by
    refine ⟨?_, hbV⟩
    have := (ownD2_lit0 w).widen (lo' := w.heap.size) (hi' := (w.alloc (.cells #[] 43)).heap.size) (Nat.le_refl _) (by simp) (Nat.le_refl _)
    rw [← HVV.out]
    exact this
  cases hvb : viewB (vsOf ss) with
  | false =>
    have C := specViewOk_any a c ss V (hr.below hbV) hf
    rw [hvb] at C
    have HR : Hid (dangV (vsOf ss) = []) := by rw [Hid, dangV, hvb]; rfl
    rw [HR.out]
    clear hvb HR hr hf hsV
    by_cases h0 : ss.length = 0
    · rw [h0] at C ⊢
      clear h0 hl C
      go_enter Tryd.func5, Tryd.ntmps5
      go_upto_region 2 with fail
      rw [HVV.out]
      clear HVV
      have HA : Hid (DangAns w [] (.returned (.slice (some ⟨w.heap.size, 0, none⟩) 0 0)) V) := ⟨_, _, rfl, HDV.out.own, HDV.out.bel⟩
      go_wp2_with fail
      refine wp_loop_rounds 1 ?_
      rw [rounds_succ]
      go_wp2_with fail
      go_ret
      exact HA.out
    · have hpos : 0 < ss.length := by omega
      have hposI : (0 : Int) < (ss.length : Int) := by omega
      clear h0
      go_enter Tryd.func5, Tryd.ntmps5
      go_upto_region 2 with fail
      rw [HVV.out]
      clear HVV
      go_wp2_with fail
      refine wp_loop_rounds 1 ?_
      rw [rounds_succ]
      go_wp2_with fail
      refine C.mono ?_
      rintro e w1 ⟨rfl, hb1⟩
      have HA : Hid (DangAns w [] (.returned (.slice (some ⟨w.heap.size, 0, none⟩) 0 0)) w1) := ⟨_, _, rfl, (HDV.out.below hb1).own, (HDV.out.below hb1).bel⟩
      clear C
      go_wp2_with fail
      go_ret
      exact HA.out
  | true =>
    have h32 : ss.length = 32 := by have := viewB_len32 hvb; rwa [vsOf_len] at this
    obtain ⟨b, off, rfl, _⟩ := hr (by intro e; rw [e] at h32; simp at h32)
    have HR : Hid (dangV (vsOf ss) = dangTo (vsOf ss) 32) := by rw [Hid, dangV, hvb]; rfl
    have HVO : Hid (∀ u, Below w.heap.size w u → Calls Tryd.prog 14 #[.slice (some ⟨b, off, none⟩) 32 c] u fun e w' => e = .returned (.bool true) ∧ Below u.heap.size u w') := fun u hu => by
      have := specViewOk_any (some ⟨b, off, none⟩) c ss u (hr.below hu) hf
      rwa [hvb, h32] at this
    have HH : Hid (∀ u, Below w.heap.size w u → ∀ k : Nat, k < 32 → u.cell? ⟨b, off + k * 4, none⟩ = some (.bool (hasM (vsOf ss) k))) := fun u hu k hk => view_hasD hr h32 hu k hk
    have HS : Hid (∀ k : Nat, k < 32 → ∃ aR cR, ∀ u, Below w.heap.size w u → u.cell? ⟨b, off + k * 4 + 3, none⟩ = some (.slice aR (refsM (vsOf ss) k).length cR) ∧ ReadsI u aR (refsM (vsOf ss) k)) := fun k hk => by
      obtain ⟨_, _, _, _, _, aR, cR, h⟩ := view_slotD hr h32 k hk
      exact ⟨aR, cR, fun u hu => (h u hu).2.2.2⟩
    have HRG : Hid (RngM (vsOf ss)) := viewB_rng hvb
    have HLN : Hid (∀ i, (refsM (vsOf ss) i).length ≤ 5) := viewB_refs hvb
    have HTL : Hid (∀ n, (dangTo (vsOf ss) n).length ≤ 5 * n) := dangTo_len (viewB_refs hvb)
    rw [HR.out, h32]
    clear hvb HR hr hf h32 hl hsV
    generalize vsOf ss = vs at *
    obtain ⟨FIN, HFIN⟩ : ∃ FIN, Hid (dangTo vs 32 = FIN) := ⟨_, rfl⟩
    rw [HFIN.out]
    go_enter Tryd.func5, Tryd.ntmps5
    go_upto_region 2 with fail
    rw [HVV.out]
    clear HVV
    go_wp2_with fail
    go_loopw [3, 4] (fun v3 i wr => ∃ (n : Nat) (L : List PairV) (a : Option Addr) (c : Nat), n ≤ 32 ∧ L.length ≤ 160 ∧ i = .int .i64 n ∧ v3 = .slice a L.length c ∧ Hid (DgI w wr a c L ∧ dangTo vs n = L)) (fun _ i _ => 32 - (intOf i).toNat)
    case atStart => exact ⟨0, [], _, _, by omega, by simp, rfl, rfl, HDV.out, rfl⟩
    case round =>
      obtain ⟨n, L, a3, c3, hn, hL, rfl, rfl, hI⟩ := hrel
      clear HDV
      by_cases hlt : n < 32
      · have CV := HVO.out wr hI.out.1.bel
        have hnI : (n : Int) < 32 := by omega
        go_wp2_with fail
        refine CV.mono ?_
        rintro e wv ⟨rfl, hbv⟩
        have HIv : Hid (DgI w wv a3 c3 L ∧ dangTo vs n = L) := ⟨hI.out.1.below hbv, hI.out.2⟩
        clear CV hI hbv
        obtain ⟨aR, cR, hcl⟩ := HS.out n hlt
        have HFV : Hid (∀ u, Below w.heap.size w u → ReadsI u aR (refsM vs n)) := fun u hu => (hcl u hu).2
        have HFC : Hid (∀ u, Below w.heap.size w u → u.cell? ⟨b, off + n * 4 + 3, none⟩ = some (.slice aR (refsM vs n).length cR)) := fun u hu => (hcl u hu).1
        have HFI : Hid (_) := HRG.out n
        have HFL := HLN.out n
        have HNX : Hid (dangTo vs (n + 1) = L ++ dangIn vs n (refsM vs n) ∧ (dangTo vs (n + 1)).length ≤ 160) := ⟨by rw [← HIv.out.2]; rfl, by have := HTL.out (n + 1); omega⟩
        have HL5 : Hid (L.length ≤ 5 * n) := by rw [Hid, ← HIv.out.2]; exact HTL.out n
        have HIL : Hid (∀ F', (dangIn vs n F').length ≤ F'.length) := fun F' => dangIn_len vs n F'
        generalize refsM vs n = F at *
        clear hcl HS HRG HLN HTL
        generalize wr = wo at *
        go_wp2_with fail
        go_loopw [3, 5] (fun v3 i wr => ∃ (k : Nat) (M : List PairV) (a : Option Addr) (c : Nat), k ≤ F.length ∧ M.length ≤ 170 ∧ i = .int .i64 k ∧ v3 = .slice a M.length c ∧ Hid (DgI w wr a c M ∧ L ++ dangIn vs n (F.take k) = M)) (fun _ i _ => F.length - (intOf i).toNat)
        case atStart => exact ⟨0, L, a3, c3, Nat.zero_le _, by omega, rfl, rfl, HIv.out.1, by have e : dangIn vs n (F.take 0) = [] := rfl; rw [e, List.append_nil]⟩
        case round =>
          obtain ⟨k, M, a4, c4, hk, hM, rfl, rfl, hJ⟩ := hrel
          clear HIv
          have g0 := HFC.out wr hJ.out.1.bel
          by_cases hkl : k < F.length
          · obtain ⟨bf, offf, rfl, hcf⟩ := HFV.out wr hJ.out.1.bel (by intro e; rw [e] at hkl; simp at hkl)
            have f0 := hcf k hkl
            obtain ⟨y, hye, hy32⟩ : ∃ y : Nat, F.getD k 0 = y ∧ y < 32 := by
              have := HFI.out _ (mem_getDD hkl)
              exact ⟨(F.getD k 0).toNat, by omega, by omega⟩
            have HST : Hid (L ++ dangIn vs n (F.take (k + 1)) = if dangB vs y = true then M ++ [⟨(n : Int), (y : Int)⟩] else M) := by
              have h1 := dangIn_step vs n F k hkl
              rw [hye] at h1
              rw [Hid, h1, ← hJ.out.2]
              split
              · rw [List.append_assoc]
              · rfl
            have HMB : Hid (M.length ≤ 5 * n + k) := by
              have h1 := HIL.out (F.take k)
              have h2 := congrArg List.length hJ.out.2
              rw [List.length_append] at h2
              rw [List.length_take] at h1
              have := HL5.out
              rw [Hid]; omega
            rw [hye] at f0
            have v0 := HH.out wr hJ.out.1.bel y hy32
            have hyI : (y : Int) < 32 := by omega
            have HJ : Hid (DgI w wr a4 c4 M) := hJ.out.1
            have HDB : Hid (dangB vs y = (decide (0 < (y : Int)) && !hasM vs y)) := rfl
            clear hcf hye hJ HFI HFV HH HFC
            generalize hasM vs (y : Int) = hb at *
            by_cases hy0 : 0 < (y : Int)
            · have hyn : 0 < y := by omega
              cases hb with
              | true =>
                have HQ : Hid (DgI w wr a4 c4 M ∧ L ++ dangIn vs n (F.take (k + 1)) = M) := ⟨HJ.out, by rw [HST.out, HDB.out, decide_eq_true hy0]; rfl⟩
                clear HST HDB HJ
                go_wp2_with fail
                go_roundw
                case rel => exact ⟨k + 1, M, a4, c4, by omega, hM, by go_num, rfl, HQ⟩
                case measure => simp [intOf]; omega
              | false =>
                have HQ0 : Hid (L ++ dangIn vs n (F.take (k + 1)) = M ++ [⟨(n : Int), (y : Int)⟩]) := by rw [Hid, HST.out, HDB.out, decide_eq_true hy0]; rfl
                have hlo := HJ.out.bel.size
                have ho := HJ.out.own.below ((Below.refl _ _).alloc (Nat.le_refl _) (.cells #[.int .i64 (n : Int), .int .i64 (y : Int)] 43))
                clear HST HDB
                go_wp2_with (first | (at_builtin; refine append_pairsF rfl _ _ rfl w.heap.size wr.heap.size a4 c4 M rfl ho _ _ [⟨(n : Int), (y : Int)⟩] rfl (readsD2_one wr ⟨(n : Int), (y : Int)⟩ _) (fun h => by cases h) (by simp; omega) (by simp; omega) ?_; intro a5 c5 y5 w5 hy5 ho5 hg5 hk5) | fail)
                have HQ : Hid ((DgI w w5 a5 c5 y5 ∧ L ++ dangIn vs n (F.take (k + 1)) = y5) ∧ y5.length ≤ 170) := by
                  refine ⟨⟨HJ.out.push ho5 hg5, by rw [HQ0.out, hy5.out]⟩, ?_⟩
                  rw [hy5.out]
                  simp
                  have := HMB.out
                  omega
                clear ho5 hg5 hk5 hy5 ho HJ HQ0
                go_roundw
                case rel => exact ⟨k + 1, y5, a5, c5, by omega, HQ.out.2, by go_num, rfl, HQ.out.1⟩
                case measure => simp [intOf]; omega
            · have HQ : Hid (DgI w wr a4 c4 M ∧ L ++ dangIn vs n (F.take (k + 1)) = M) := ⟨HJ.out, by rw [HST.out, HDB.out, decide_eq_false hy0]; rfl⟩
              obtain rfl : y = 0 := by omega
              clear HST HDB HJ hy0
              go_wp2_with fail
              go_roundw
              case rel => exact ⟨k + 1, M, a4, c4, by omega, hM, by go_num, rfl, HQ⟩
              case measure => simp [intOf]; omega
          · have HQ : Hid (DgI w wr a4 c4 M ∧ dangTo vs (n + 1) = M) := by
              refine ⟨hJ.out.1, ?_⟩
              have := hJ.out.2
              rw [List.take_of_length_le (by omega)] at this
              rw [HNX.out.1, this]
            have hM160 : M.length ≤ 160 := by rw [← HQ.out.2]; exact HNX.out.2
            clear hJ HFI HFV HH HNX HFC
            go_wp2_with fail
            go_roundw
            case rel => exact ⟨n + 1, M, a4, c4, by omega, hM160, by go_num, rfl, HQ⟩
            case measure => simp [intOf]; omega
      · obtain rfl : n = 32 := by omega
        have HQ : Hid (DangAns w FIN (.returned (.slice a3 L.length c3)) wr) := by
          have e : L = FIN := by rw [← hI.out.2]; exact HFIN.out
          rw [← e]
          exact ⟨a3, c3, rfl, hI.out.1.own, hI.out.1.bel⟩
        clear hI HH HS HRG HLN HTL HVO
        go_wp2_with fail
        go_ret
        exact HQ.out
end Go.Proofs.YtgbpnepipknjnabDoor
