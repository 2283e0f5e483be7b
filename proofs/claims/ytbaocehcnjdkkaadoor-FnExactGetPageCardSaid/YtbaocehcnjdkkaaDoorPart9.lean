/- Several texts in one, in their order. -/
import Derived.Test.YtbaocehcnjdkkaaDoorProg
import Derived.Test.YtbaocehcnjdkkaaDoorPart1
import Derived.LaidEql
import Derived.Stop.Asserts
import Derived.RowKitTokens
import Derived.Test.YtbaocehcnjdkkaaDoorPart2
import Derived.Test.YtbaocehcnjdkkaaDoorPart4
import Derived.Deep.RegionHeld3
import Derived.Test.YtbaocehcnjdkkaaDoorPart5
import Derived.Lib.ConvBytes
import Derived.Test.YtbaocehcnjdkkaaDoorPart6
/- errors.As at a noObject: the walks of errors.As and of impl.isNoObject. -/
namespace Go.Proofs.YtbaocehcnjdkkaaDoor
open Go.RowKit Go.Extern.Stop Go.Stop Go.Extern

/-- The variable errors.errorType holds the handle of the type error. -/
def ErrT (w : World) : Prop := w.cell? ⟨0, 0, none⟩ = some (.iface 154 (.agg #[.pointer (some ⟨1, 123, none⟩)]))

theorem ErrT.lt {w : World} (h : ErrT w) : 0 < w.heap.size := by
  unfold ErrT at h
  rcases Nat.lt_or_ge 0 w.heap.size with h0 | h0
  · exact h0
  · simp [World.cell?, Array.getElem?_eq_none h0] at h
theorem ErrT.below {w w' : World} {n : Nat} (h : ErrT w) (hb : Below n w w') (hn : 0 < n) : ErrT w' := by
  unfold ErrT at h ⊢
  rw [hb.cell (p := ⟨0, 0, none⟩) hn]
  exact h
theorem ErrT.keep {w w' : World} (h : ErrT w) (hb : Below w.heap.size w w') : ErrT w' := h.below hb h.lt

theorem Tryd.asValueOfP (t : Addr) (w : World) : (ReflectliteValue.unpack (.iface 133 (.pointer (some t)))).run Tryd.prog w
    = .ok (.agg #[.pointer (some ⟨1, 133, none⟩), .pointer (some ⟨w.heap.size, 0, none⟩), .int .u64 150]) (w.alloc (.cells #[.pointer (some t)] 133)) := by kernel_rfl
theorem Tryd.asTypeP (a : Addr) (w : World) : (ReflectliteValue.methodAny (ReflectliteValue.valueError "reflectlite.Value.Type" 0) (fun t _ _ _ => ReflectliteType.toType t) #[.agg #[.pointer (some ⟨1, 133, none⟩), .pointer (some a), .int .u64 150]]).run Tryd.prog w
    = .ok (.iface 154 (.agg #[.pointer (some ⟨1, 133, none⟩)])) w := by kernel_rfl
theorem Tryd.asMethodKind (h : Value) (w : World) : (Go.method 296 154 (.agg #[h]) "Kind").run Tryd.prog w = .ok (144, h) w := by kernel_rfl
theorem Tryd.asKindP (w : World) : ((ReflectliteType.abiMethod fun t => (fun a : Nat => Value.int IntKind.u8 (a : Int)) <$> Rtype.kind t) #[.pointer (some ⟨1, 133, none⟩)]).run Tryd.prog w = .ok (.int .u8 22) w := by kernel_rfl
theorem Tryd.asKindS (w : World) : ((ReflectliteType.abiMethod fun t => (fun a : Nat => Value.int IntKind.u8 (a : Int)) <$> Rtype.kind t) #[.pointer (some ⟨1, 131, none⟩)]).run Tryd.prog w = .ok (.int .u8 25) w := by kernel_rfl

theorem rlm (z : Sem Value) (f : TypeId → Addr → Nat → Nat → Sem Value) (v : Value) :
    ReflectliteValue.method z f #[v] = (do match ← ReflectliteValue.parts v with | none => z | some (t, a, fl) => f t a fl (fl % 32)) := rfl
theorem Tryd.asPartsP (a : Addr) (w : World) : (ReflectliteValue.parts (.agg #[.pointer (some ⟨1, 133, none⟩), .pointer (some a), .int .u64 150])).run Tryd.prog w = .ok (some (133, a, 150)) w := by kernel_rfl
theorem Tryd.asIsNilP (a p : Addr) (W : World) (ha : W.cell? a = some (.pointer (some p))) :
    (ReflectliteValue.method (ReflectliteValue.valueError "reflectlite.Value.IsNil" 0) ReflectliteValue.isNil #[.agg #[.pointer (some ⟨1, 133, none⟩), .pointer (some a), .int .u64 150]]).run Tryd.prog W = .ok (.bool false) W := by
  rw [rlm]
  simp only [Sem.run_bind, Tryd.asPartsP, Result.andThen]
  simp [ReflectliteValue.isNil, loadVar, isAgg, underlying, Tryd.underlying133, ha, Result.andThen]

theorem Tryd.asMethodElem (h : Value) (w : World) : (Go.method 296 154 (.agg #[h]) "Elem").run Tryd.prog w = .ok (154, .agg #[h]) w := by kernel_rfl
theorem Tryd.asMethodImplements (h : Value) (w : World) : (Go.method 296 154 (.agg #[h]) "Implements").run Tryd.prog w = .ok (155, .agg #[h]) w := by kernel_rfl
theorem Tryd.asMethodAssignableTo (h : Value) (w : World) : (Go.method 296 154 (.agg #[h]) "AssignableTo").run Tryd.prog w = .ok (152, .agg #[h]) w := by kernel_rfl
theorem Tryd.asElemP (w : World) : (ReflectliteType.method ReflectliteType.elem #[.agg #[.pointer (some ⟨1, 133, none⟩)]]).run Tryd.prog w = .ok (.iface 154 (.agg #[.pointer (some ⟨1, 131, none⟩)])) w := by kernel_rfl
theorem Tryd.asImplementsS (w : World) : (ReflectliteType.relation "Implements" ReflectliteType.implements_ #[.agg #[.pointer (some ⟨1, 131, none⟩)], .iface 154 (.agg #[.pointer (some ⟨1, 123, none⟩)])]).run Tryd.prog w = .ok (.bool true) w := by kernel_rfl
theorem Tryd.asTypeOfS (v : Value) (w : World) : (ReflectliteType.typeOf #[.iface 131 v]).run Tryd.prog w = .ok (.iface 154 (.agg #[.pointer (some ⟨1, 131, none⟩)])) w := by kernel_rfl
theorem Tryd.asAssignableS (w : World) : (ReflectliteType.relation "AssignableTo" ReflectliteType.assignableTo #[.agg #[.pointer (some ⟨1, 131, none⟩)], .iface 154 (.agg #[.pointer (some ⟨1, 131, none⟩)])]).run Tryd.prog w = .ok (.bool true) w := by kernel_rfl
theorem Tryd.asValueOfS (s : ByteArray) (w : World) : (ReflectliteValue.unpack (.iface 131 (.agg #[.string s]))).run Tryd.prog w
    = .ok (.agg #[.pointer (some ⟨1, 131, none⟩), .pointer (some ⟨w.heap.size, 0, none⟩), .int .u64 153]) (w.alloc (.cells #[.string s] 131)) := by kernel_rfl

theorem Tryd.asElemOfP (w : World) : (Rtype.elem? 133).run Tryd.prog w = .ok (some 131) w := by kernel_rfl
theorem Tryd.asMkS (p : Addr) (w : World) : (ReflectliteValue.mk 131 p ReflectliteValue.flagAddr).run Tryd.prog w = .ok (.agg #[.pointer (some ⟨1, 131, none⟩), .pointer (some p), .int .u64 409]) w := by kernel_rfl
theorem Tryd.asElemV (a p : Addr) (W : World) (ha : W.cell? a = some (.pointer (some p))) :
    (ReflectliteValue.method (ReflectliteValue.valueError "reflectlite.Value.Elem" 0) ReflectliteValue.elem #[.agg #[.pointer (some ⟨1, 133, none⟩), .pointer (some a), .int .u64 150]]).run Tryd.prog W
      = .ok (.agg #[.pointer (some ⟨1, 131, none⟩), .pointer (some p), .int .u64 409]) W := by
  rw [rlm]
  simp only [Sem.run_bind, Tryd.asPartsP, Result.andThen]
  simp [ReflectliteValue.elem, loadVar, isAgg, underlying, Tryd.underlying133, ha, Result.andThen, Tryd.asElemOfP, Tryd.asMkS]
theorem rls (v x : Value) : ReflectliteValue.set #[v, x] = (do
    let (some (dst, a, fl), some (src, b, _)) := (← ReflectliteValue.parts v, ← ReflectliteValue.parts x)
      | unsupported (.noEntry "extern/(internal/reflectlite.Value).Set.zeroValue")
    if fl / ReflectliteValue.flagAddr % 2 == 0 then unsupported (.noEntry "extern/(internal/reflectlite.Value).Set.unaddressable")
    let val ← loadVar src b
    if ← Rtype.directlyAssignable dst src then storeVar dst a val
    else if ← Rtype.implements dst src then
      if (← Rtype.kind src) == 20 then
        match val with
        | .nilIface => unsupported (.noEntry "extern/reflectlite: a nil value of one interface type handed on as a value of another")
        | _ => storeVar dst a val
      else storeVar dst a (.iface src val)
    else panicString ("reflectlite.Set: value of type " ++ (← Rtype.spelt src) ++ " is not assignable to type " ++ (← Rtype.spelt dst))
    pure (.tuple #[])) := rfl
theorem Tryd.asPartsSa (a : Addr) (w : World) : (ReflectliteValue.parts (.agg #[.pointer (some ⟨1, 131, none⟩), .pointer (some a), .int .u64 409])).run Tryd.prog w = .ok (some (131, a, 409)) w := by kernel_rfl
theorem Tryd.asPartsS (a : Addr) (w : World) : (ReflectliteValue.parts (.agg #[.pointer (some ⟨1, 131, none⟩), .pointer (some a), .int .u64 153])).run Tryd.prog w = .ok (some (131, a, 153)) w := by kernel_rfl
theorem Tryd.asDirectS (w : World) : (Rtype.directlyAssignable 131 131).run Tryd.prog w = .ok true w := by kernel_rfl
theorem Tryd.asSizeS (w : World) : (sizeOf 131).run Tryd.prog w = .ok 1 w := by kernel_rfl
theorem Tryd.asSetS (ta b : Addr) (s : ByteArray) (old : Value) (W : World) (hb : W.cell? b = some (.string s)) (ht : W.cell? ta = some old) (hf : W.frozen? ta = false) :
    (ReflectliteValue.set #[.agg #[.pointer (some ⟨1, 131, none⟩), .pointer (some ta), .int .u64 409], .agg #[.pointer (some ⟨1, 131, none⟩), .pointer (some b), .int .u64 153]]).run Tryd.prog W
      = .ok (.tuple #[]) (W.setCell ta (.string s)) := by
  rw [rls]
  simp only [Sem.run_bind, Tryd.asPartsSa, Tryd.asPartsS, Result.andThen]
  simp [ReflectliteValue.flagAddr, loadVar, loadCells, loadCellsFrom, hb, Result.andThen, Tryd.asDirectS, storeVar, Value.cells, storeCells, Addr.add]
  rw [run_store Tryd.prog W ta _ _ (by rfl)]
  simp [ht, hf]

/-- errors.As(nil, target). -/
theorem as_nil (t : Value) (w : World) : Calls Tryd.prog 117 #[.nilIface, t] w fun e w' => e = .returned (.bool false) ∧ w' = w := by
  go_enter Tryd.func117, Tryd.ntmps117
  go_wp2
  go_ret
  exact ⟨rfl, rfl⟩

set_option maxHeartbeats 4000000 in
theorem as_hit (s : ByteArray) (t : Addr) (old : Value) (w : World) (hg : w.cell? ⟨0, 0, none⟩ = some (.iface 154 (.agg #[.pointer (some ⟨1, 123, none⟩)]))) (ht0 : w.cell? t = some old) (hf0 : w.frozen? t = false) :
    Calls Tryd.prog 117 #[.iface 131 (.agg #[.string s]), .iface 133 (.pointer (some t))] w fun ev w' => ev = .returned (.bool true) ∧ w' = ((((w.alloc (.cells #[.pointer (some t)] 133)).alloc (.cells #[.pointer (some ⟨1, 133, none⟩), .pointer (some ⟨w.heap.size, 0, none⟩), .int .u64 150] 141)).alloc (.cells #[.pointer (some ⟨1, 133, none⟩), .pointer (some ⟨w.heap.size, 0, none⟩), .int .u64 150] 141)).alloc (.cells #[.string s] 131)).setCell t (.string s) := by
  have h6 := @run_callFunc_extern Tryd.prog 122 _ (fun args => ReflectliteValue.unpack (args.getD 0 (.tuple #[]))) Tryd.func122 (by kernel_rfl) (by kernel_rfl) (by kernel_rfl) (by kernel_rfl)
  have h7 := @run_callFunc_extern Tryd.prog 123 _ (ReflectliteValue.methodAny (ReflectliteValue.valueError "reflectlite.Value.Type" 0) (fun t _ _ _ => ReflectliteType.toType t)) Tryd.func123 (by kernel_rfl) (by kernel_rfl) (by kernel_rfl) (by kernel_rfl)
  have h8 := @run_callFunc_extern Tryd.prog 124 _ (ReflectliteValue.method (ReflectliteValue.valueError "reflectlite.Value.IsNil" 0) ReflectliteValue.isNil) Tryd.func124 (by kernel_rfl) (by kernel_rfl) (by kernel_rfl) (by kernel_rfl)
  have h27 := @run_callFunc_extern Tryd.prog 144 _ (ReflectliteType.abiMethod fun t => do pure (.int .u8 (← Rtype.kind t))) Tryd.func144 (by kernel_rfl) (by kernel_rfl) (by kernel_rfl) (by kernel_rfl)
  have h37 := @run_callFunc_extern Tryd.prog 154 _ (ReflectliteType.method ReflectliteType.elem) Tryd.func154 (by kernel_rfl) (by kernel_rfl) (by kernel_rfl) (by kernel_rfl)
  have h38 := @run_callFunc_extern Tryd.prog 155 _ (ReflectliteType.relation "Implements" ReflectliteType.implements_) Tryd.func155 (by kernel_rfl) (by kernel_rfl) (by kernel_rfl) (by kernel_rfl)
  have h10 := @run_callFunc_extern Tryd.prog 127 _ ReflectliteType.typeOf Tryd.func127 (by kernel_rfl) (by kernel_rfl) (by kernel_rfl) (by kernel_rfl)
  have h35 := @run_callFunc_extern Tryd.prog 152 _ (ReflectliteType.relation "AssignableTo" ReflectliteType.assignableTo) Tryd.func152 (by kernel_rfl) (by kernel_rfl) (by kernel_rfl) (by kernel_rfl)
  have h11 := @run_callFunc_extern Tryd.prog 128 _ (ReflectliteValue.method (ReflectliteValue.valueError "reflectlite.Value.Elem" 0) ReflectliteValue.elem) Tryd.func128 (by kernel_rfl) (by kernel_rfl) (by kernel_rfl) (by kernel_rfl)
  have h12 := @run_callFunc_extern Tryd.prog 129 _ ReflectliteValue.set Tryd.func129 (by kernel_rfl) (by kernel_rfl) (by kernel_rfl) (by kernel_rfl)
  have tO := Tryd.asTypeOfS
  have mA := Tryd.asMethodAssignableTo
  have a25 := Tryd.asAssignableS
  have v25 := Tryd.asValueOfS
  have f6 := Tryd.asValueOfP
  have f7 := Tryd.asTypeP
  have mK := Tryd.asMethodKind
  have mE := Tryd.asMethodElem
  have mI := Tryd.asMethodImplements
  have k27 := Tryd.asKindP
  have k25 := Tryd.asKindS
  have e27 := Tryd.asElemP
  have i25 := Tryd.asImplementsS
  have n8 := Tryd.asIsNilP ⟨w.heap.size, 0, none⟩ t ((w.alloc (.cells #[.pointer (some t)] 133)).alloc (.cells #[.pointer (some ⟨1, 133, none⟩), .pointer (some ⟨w.heap.size, 0, none⟩), .int .u64 150] 141)) (by simp)
  have hlt : 0 < w.heap.size := by
    rcases Nat.lt_or_ge 0 w.heap.size with h0 | h0
    · exact h0
    · simp [World.cell?, Array.getElem?_eq_none h0] at hg
  have hg2 : ((w.alloc (.cells #[.pointer (some t)] 133)).alloc (.cells #[.pointer (some ⟨1, 133, none⟩), .pointer (some ⟨w.heap.size, 0, none⟩), .int .u64 150] 141)).cell? ⟨0, 0, none⟩ = some (.iface 154 (.agg #[.pointer (some ⟨1, 123, none⟩)])) := by
    rw [World.cell?_alloc_lt _ _ ⟨0, 0, none⟩ (Nat.lt_of_lt_of_le hlt (by simp)), World.cell?_alloc_lt _ _ ⟨0, 0, none⟩ hlt]; exact hg
  have htl : t.block < w.heap.size := by
    rcases Nat.lt_or_ge t.block w.heap.size with h | h
    · exact h
    · simp [World.cell?, Array.getElem?_eq_none h] at ht0
  have el := Tryd.asElemV ⟨w.heap.size, 0, none⟩ t (((w.alloc (.cells #[.pointer (some t)] 133)).alloc (.cells #[.pointer (some ⟨1, 133, none⟩), .pointer (some ⟨w.heap.size, 0, none⟩), .int .u64 150] 141)).alloc (.cells #[.pointer (some ⟨1, 133, none⟩), .pointer (some ⟨w.heap.size, 0, none⟩), .int .u64 150] 141)) (by rw [World.cell?_alloc_lt _ _ ⟨w.heap.size, 0, none⟩ (by simp; omega)]; simp)
  have st := Tryd.asSetS t ⟨w.heap.size + 1 + 1 + 1, 0, none⟩ s old ((((w.alloc (.cells #[.pointer (some t)] 133)).alloc (.cells #[.pointer (some ⟨1, 133, none⟩), .pointer (some ⟨w.heap.size, 0, none⟩), .int .u64 150] 141)).alloc (.cells #[.pointer (some ⟨1, 133, none⟩), .pointer (some ⟨w.heap.size, 0, none⟩), .int .u64 150] 141)).alloc (.cells #[.string s] 131))
    (by rw [World.cell?_alloc_at _ _ _ _ (by simp)]; rfl)
    (by rw [World.cell?_alloc_lt _ _ t (by simp; omega), World.cell?_alloc_lt _ _ t (by simp; omega), World.cell?_alloc_lt _ _ t (by simp; omega), World.cell?_alloc_lt _ _ t htl]; exact ht0)
    (by rw [World.frozen?_alloc_old _ _ t (by simp; omega), World.frozen?_alloc_old _ _ t (by simp; omega), World.frozen?_alloc_old _ _ t (by simp; omega), World.frozen?_alloc_old _ _ t (Nat.ne_of_lt htl)]; exact hf0)
  go_enter Tryd.func117, Tryd.ntmps117
  go_wp2
  refine wp_loop_rounds 1 ?_
  rw [rounds_succ]
  go_wp2
  go_ret
  exact ⟨rfl, rfl⟩

theorem isNo_nil (w : World) : Calls Tryd.prog 106 #[.nilIface] w fun e w' => e = .returned (.bool false) ∧ Below w.heap.size w w' := by
  go_enter Tryd.func106, Tryd.ntmps106
  go_wp2_with fail
  refine (as_nil _ _).mono ?_
  rintro e w' ⟨rfl, rfl⟩
  go_wp2
  go_ret
  exact ⟨rfl, (Below.refl _ _).alloc (Nat.le_refl _) _⟩

set_option maxHeartbeats 1000000 in
theorem isNo_hit (s : ByteArray) (w : World) (hg : ErrT w) : Calls Tryd.prog 106 #[.iface 131 (.agg #[.string s])] w fun e w' => e = .returned (.bool true) ∧ Below w.heap.size w w' := by
  have hgA : ErrT (w.alloc (.cells #[.string ⟨#[]⟩] 131)) := hg.keep ((Below.refl _ _).alloc (Nat.le_refl _) _)
  go_enter Tryd.func106, Tryd.ntmps106
  go_wp2_with fail
  refine (as_hit s ⟨w.heap.size, 0, none⟩ (.string ⟨#[]⟩) _ hgA (by simp) (by simp)).mono ?_
  rintro e w' ⟨rfl, rfl⟩
  go_wp2
  go_ret
  refine ⟨rfl, ?_⟩
  exact (((((Below.refl _ _).alloc (Nat.le_refl _) _).alloc (by simp) _).alloc (by simp; omega) _).alloc (by simp; omega) _).alloc (by simp; omega) _
end Go.Proofs.YtbaocehcnjdkkaaDoor

/- The walk of impl.readParts. -/
namespace Go.Proofs.YtbaocehcnjdkkaaDoor
open Go.RowKit

/-- What readParts answers. -/
def PartsAns (w' : World) (lo : Nat) (x : Option (List Int × Nat)) (e : Ending) : Prop := match x with
  | some (l, q) => ∃ a' c', e = .returned (.tuple #[.slice a' l.length c', .int .i64 (q : Nat), .nilIface]) ∧ OwnI w' lo w'.heap.size a' c' l
  | none => ∃ s, e = .returned (.tuple #[.slice none 0 0, .int .i64 0, .iface 131 (.agg #[.string s])])
theorem partsAns_none {w' : World} {lo : Nat} {x : Option (List Int × Nat)} (h : x = none) (s : ByteArray) : PartsAns w' lo x (.returned (.tuple #[.slice none 0 0, .int .i64 0, .iface 131 (.agg #[.string s])])) := by
  subst h; exact ⟨s, rfl⟩
theorem partsAns_some {w' : World} {lo : Nat} {x : Option (List Int × Nat)} {l : List Int} {q : Nat} (h : x = some (l, q)) (a' : Option Addr) (c' n : Nat) (hn : n = l.length) (ho : OwnI w' lo w'.heap.size a' c' l) : PartsAns w' lo x (.returned (.tuple #[.slice a' n c', .int .i64 (q : Nat), .nilIface])) := by
  subst h; subst hn; exact ⟨a', c', rfl, ho⟩

theorem partsAt_none {zs : List Int} {p : Nat} (h : getAt zs (p : Int) = none) : partsAt zs p = none := by unfold partsAt; rw [h]
theorem partsAt_bad {zs : List Int} {p q : Nat} {n : Int} (h : getAt zs (p : Int) = some (n, q)) (hn : n < 0 ∨ 5 < n) : partsAt zs p = none := by
  unfold partsAt; rw [h]; simp only; rw [if_neg (by omega)]
theorem partsAt_good {zs : List Int} {p q m : Nat} (h : getAt zs (p : Int) = some ((m : Int), q)) (hm : m ≤ 5) : partsAt zs p = numsAt zs m q := by
  unfold partsAt; rw [h]; simp only; rw [if_pos (by omega), Int.toNat_natCast]

set_option maxHeartbeats 2000000 in
set_option maxRecDepth 100000 in
theorem readParts_any (a : Option Addr) (c : Nat) (zs : List Int) (p : Nat) (w : World) (hr : Reads w a zs) (hl : zs.length ≤ 70368744177664) (hcap : zs.length ≤ c) :
    Calls Tryd.prog 126 #[.slice a zs.length c, .int .i64 p] w fun e w' => PartsAns w' w.heap.size (partsAt zs p) e ∧ Below w.heap.size w w' := by
  cases hg : getAt zs (p : Int) with
  | none =>
    have HX : Hid (_ = _) := partsAt_none hg
    have HG : Hid (_ = _) := hg
    clear hg
    generalize partsAt zs p = X at *
    go_enter Tryd.func126, Tryd.ntmps126
    go_wp2_with fail
    refine (implGetInt_any a c zs p w hr hl hcap).mono ?_
    rintro e w' ⟨rfl, rfl⟩
    rw [HG.out]
    simp only [triple]
    go_wp2
    go_ret3
    exact ⟨partsAns_none HX.out _, Below.refl _ _⟩
  | some t =>
    obtain ⟨n, q⟩ := t
    by_cases hn0 : n < 0
    · have HX : Hid (_ = _) := partsAt_bad hg (.inl hn0)
      have HG : Hid (_ = _) := hg
      clear hg
      generalize partsAt zs p = X at *
      go_enter Tryd.func126, Tryd.ntmps126
      go_wp2_with fail
      refine (implGetInt_any a c zs p w hr hl hcap).mono ?_
      rintro e w' ⟨rfl, rfl⟩
      rw [HG.out]
      simp only [triple]
      go_wp2
      go_ret3
      exact ⟨partsAns_none HX.out _, Below.refl _ _⟩
    by_cases hn5 : 5 < n
    · have HX : Hid (_ = _) := partsAt_bad hg (.inr hn5)
      have HG : Hid (_ = _) := hg
      clear hg
      generalize partsAt zs p = X at *
      go_enter Tryd.func126, Tryd.ntmps126
      go_wp2_with fail
      refine (implGetInt_any a c zs p w hr hl hcap).mono ?_
      rintro e w' ⟨rfl, rfl⟩
      rw [HG.out]
      simp only [triple]
      go_wp2
      go_ret3
      exact ⟨partsAns_none HX.out _, Below.refl _ _⟩
    obtain ⟨m, rfl⟩ : ∃ m : Nat, n = (m : Int) := ⟨n.toNat, by omega⟩
    have hm5 : m ≤ 5 := by omega
    have HX : Hid (onTo [] (numsAt zs (m - 0) q) = partsAt zs p) := by rw [Hid, partsAt_good hg hm5, onTo_nil]; rfl
    have HG : Hid (_ = _) := hg
    clear hg
    generalize partsAt zs p = X at *
    obtain ⟨i0, hi, hz0, hz1, hz2⟩ := info_parts Tryd.infoInt
    go_enter Tryd.func126, Tryd.ntmps126
    go_wp2_with fail
    refine (implGetInt_any a c zs p w hr hl hcap).mono ?_
    rintro e w' ⟨rfl, rfl⟩
    rw [HG.out]
    simp only [triple]
    go_wp2_with (at_make; refine wpList_make_full _ rfl _ _ 24 rfl w'.heap.size 3 i0 (.int .i64 0) 1 Tryd.underlying24 hi hz0 hz1 _ _ _ _ m rfl rfl rfl rfl (by rw [hz2]; omega) (by simp [maxLen]; omega) (Nat.le_refl _) ?_)
    intro w0 hown0 hgrow0
    have hown1 : w0.ownsRow w'.heap.size 3 1 (.slice (some ⟨w'.heap.size, 0, none⟩) m m) m ((rowI [] m).map (Value.int .i64)) := by
      rw [rowI_nil, List.map_replicate]
      simpa [Value.cells, toList_madeCells_one] using hown0
    have hb0 : Below w'.heap.size w' w0 := (Below.refl _ _).grown hgrow0 (Nat.le_refl _) (fun k h => by cases h)
    clear hown0 hgrow0
    go_wp2
    go_loopw [1, 34] (fun at_ i wr => ∃ (L : List Int) (k r : Nat), Hid (L.length = k) ∧ k ≤ m ∧ i = .int .i64 k ∧ at_ = .int .i64 r ∧ Hid (onTo L (numsAt zs (m - k) r) = X) ∧ Hid (wr.ownsRow w'.heap.size 3 1 (.slice (some ⟨w'.heap.size, 0, none⟩) m m) m ((rowI L m).map (Value.int .i64))) ∧ Below w'.heap.size w' wr)
      (fun _ i _ => m - (intOf i).toNat)
    case atStart => exact ⟨[], 0, q, rfl, Nat.zero_le _, rfl, rfl, HX, hown1, hb0⟩
    case round =>
      obtain ⟨L, k, r, hL, hk, rfl, rfl, hX, hownH, hnx⟩ := hrel
      clear hown1 hb0 HX
      by_cases hlt : k < m
      · have hown := hownH.out
        have hfz := hown.frozenAt k
        obtain ⟨u, hct⟩ := own_cell hown k hlt
        cases hg : getAt zs (r : Int) with
        | none =>
          have HG2 : Hid (_ = _) := hg
          have HXN : Hid (X = none) := by
            have e : m - k = (m - k - 1) + 1 := by omega
            rw [Hid, ← hX.out, e, onTo_stop zs L _ r hg]
          have hbS : Below w'.heap.size w' (wr.setCell ⟨w'.heap.size, k, none⟩ (.int .i64 0)) := hnx.setCell (Nat.le_refl _) _
          have HBS : Hid (_) := hbS
          clear hg hown hbS
          go_wp2_with fail
          refine (implGetInt_any a c zs r wr (hr.below hnx) hl hcap).mono ?_
          rintro e w2 ⟨rfl, rfl⟩
          rw [HG2.out]
          simp only [triple]
          go_wp2
          go_ret3
          exact ⟨partsAns_none HXN.out _, HBS.out⟩
        | some t =>
          obtain ⟨z, r2⟩ := t
          have HG2 : Hid (_ = _) := hg
          have HXS : Hid (onTo (L ++ [z]) (numsAt zs (m - (k + 1)) r2) = X) := by
            have e : m - k = (m - (k + 1)) + 1 := by omega
            rw [Hid, ← hX.out, e, onTo_step zs L _ r r2 z hg]
          have HLS : Hid ((L ++ [z]).length = k + 1) := by rw [Hid, List.length_append, hL.out]; rfl
          have HS : Hid ((wr.setCell ⟨w'.heap.size, k, none⟩ (.int .i64 z)).ownsRow w'.heap.size 3 1 (.slice (some ⟨w'.heap.size, 0, none⟩) m m) m ((rowI (L ++ [z]) m).map (Value.int .i64))) := by
            have h1 := (hown.stored k (.int .i64 z)).1
            have h2 := rowI_set_map L m z (by rw [hL.out]; exact hlt)
            rw [hL.out] at h2
            rw [h2] at h1
            exact h1
          have HN : Hid (Below w'.heap.size w' (wr.setCell ⟨w'.heap.size, k, none⟩ (.int .i64 z))) := hnx.setCell (Nat.le_refl _) _
          clear hg hown
          go_wp2_with fail
          refine (implGetInt_any a c zs r wr (hr.below hnx) hl hcap).mono ?_
          rintro e w2 ⟨rfl, rfl⟩
          rw [HG2.out]
          simp only [triple]
          go_wp2
          go_roundw
          case rel => exact ⟨L ++ [z], k + 1, r2, HLS, by omega, by go_num, rfl, HXS, HS, HN.out⟩
          case measure => simp [intOf]; omega
      · obtain rfl : k = m := by omega
        have HXS : Hid (X = some (L, r)) := by rw [Hid, ← hX.out, Nat.sub_self, numsAt]; simp [onTo]
        have HO : Hid (OwnI wr w'.heap.size wr.heap.size (some ⟨w'.heap.size, 0, none⟩) k L) := by
          have h1 := hownH.out
          have e : rowI L k = L := by rw [← hL.out]; exact rowI_all L
          rw [e] at h1
          refine ⟨?_, Nat.le_refl _, ?_⟩
          · rw [hL.out]; exact h1
          · intro j hj; rw [hL.out] at hj; exact (h1.lt j hj).2
        go_wp2
        go_ret3
        exact ⟨partsAns_some HXS.out _ _ _ hL.out.symm HO.out, hnx⟩
end Go.Proofs.YtbaocehcnjdkkaaDoor

/- When an object is right; the walks of impl.partsOk, impl.checkObj and impl.ObjOk. -/
namespace Go.Proofs.YtbaocehcnjdkkaaDoor
open Go.RowKit

def partsB (l : List Int) (least most : Int) : Bool := decide (l.length ≤ 5) && l.all (fun z => inB z least most)
theorem partsB_at {l : List Int} {least most : Int} (j : Nat) (hj : j < l.length) (h : inB (l.getD j 0) least most = false) : partsB l least most = false := by
  have : (l.all (fun z => inB z least most)) = false := by
    rw [List.all_eq_false]
    exact ⟨l.getD j 0, by simp [List.getD, hj], by rw [h]; decide⟩
  simp [partsB, this]
theorem partsB_all {l : List Int} {least most : Int} (h : ∀ j, j < l.length → inB (l.getD j 0) least most = true) : partsB l least most = decide (l.length ≤ 5) := by
  have : (l.all (fun z => inB z least most)) = true := by
    rw [List.all_eq_true]
    intro z hz
    obtain ⟨j, hj, rfl⟩ := List.getElem_of_mem hz
    have := h j hj
    simpa [List.getD, hj] using this
  simp [partsB, this]
theorem okB_parts (o : ObjV) : okB o = (inB o.kind 1 99 && (partsB o.ints (-1000000) 1000000 && partsB o.refs 0 31)) := by
  unfold okB partsB
  cases inB o.kind 1 99 <;> cases decide (o.ints.length ≤ 5) <;> cases decide (o.refs.length ≤ 5) <;> cases o.ints.all (fun z => inB z (-1000000) 1000000) <;> simp

theorem inB_false {x l m : Int} (h : inB x l m = false) : x < l ∨ (¬ x < l ∧ m < x) := by simp [inB] at h; omega
theorem inB_true {x l m : Int} (h : inB x l m = true) : ¬ x < l ∧ ¬ m < x := by simp [inB] at h; omega

/-- What checkObj answers of what is right, and of what is not. -/
def IsErr (ok : Bool) (e : Ending) : Prop := (ok = true ∧ e = .returned .nilIface) ∨ (ok = false ∧ ∃ s, e = .returned (.iface 131 (.agg #[.string s])))
theorem isErr_ok {ok : Bool} (h : ok = true) : IsErr ok (.returned .nilIface) := .inl ⟨h, rfl⟩
theorem isErr_no {ok : Bool} (h : ok = false) (s : ByteArray) : IsErr ok (.returned (.iface 131 (.agg #[.string s]))) := .inr ⟨h, s, rfl⟩

set_option maxHeartbeats 400000 in
theorem partsOk_any (a : Option Addr) (c : Nat) (l : List Int) (least most : Int) (w : World) (hr : ReadsI w a l) (hl : l.length ≤ 140737488355328) :
    Calls Tryd.prog 118 #[.slice a l.length c, .int .i64 least, .int .i64 most] w fun e w' => e = .returned (.bool (partsB l least most)) ∧ w' = w := by
  go_enter Tryd.func118, Tryd.ntmps118
  go_wp2
  go_loop [11] (fun i => ∃ j : Nat, j ≤ l.length ∧ i = .int .i64 j ∧ Hid (∀ t, t < j → inB (l.getD t 0) least most = true)) (fun i => l.length - (intOf i).toNat)
  case atStart => exact ⟨0, by omega, rfl, fun t ht => by omega⟩
  case round =>
    obtain ⟨j, hj, rfl, hall⟩ := hrel
    by_cases hlt : j < l.length
    · rcases hr.cases with rfl | ⟨b, off, rfl, hpos, hcell⟩
      · simp at hlt
      have hc := hcell j hlt
      clear hcell
      cases hz : inB (l.getD j 0) least most with
      | false =>
        have HE : Hid (partsB l least most = false) := partsB_at j hlt hz
        have hz' := inB_false hz
        clear hz
        generalize l.getD j 0 = z at *
        rcases hz' with h1 | ⟨h1, h2⟩
        all_goals
          go_wp2
          go_ret
          exact ⟨ret_bool HE.out.symm, rfl⟩
      | true =>
        have HN : Hid (∀ t, t < j + 1 → inB (l.getD t 0) least most = true) := by
          intro t ht
          by_cases e : t = j
          · rw [e]; exact hz
          · exact hall.out t (by omega)
        obtain ⟨h1, h2⟩ := inB_true hz
        clear hz
        generalize l.getD j 0 = z at *
        go_wp2
        go_round
        case rel => exact ⟨j + 1, by omega, by go_num, HN⟩
        case measure => simp [intOf]; omega
    · have HE : Hid (partsB l least most = decide (l.length ≤ 5)) := partsB_all (fun t ht => hall.out t (by omega))
      go_wp2
      go_ret
      exact ⟨ret_bool (by rw [HE.out]; exact decide_eq_decide.2 (by omega)), rfl⟩

set_option maxHeartbeats 1000000 in
set_option maxRecDepth 100000 in
theorem checkObj_any (o : ObjV) (aI : Option Addr) (cI : Nat) (aR : Option Addr) (cR : Nat) (w : World) (hr : ReadsO w aI cI aR cR o) (hnI : o.ints.length ≤ 140737488355328) (hnR : o.refs.length ≤ 140737488355328) :
    Calls Tryd.prog 107 #[.agg #[.int .i64 o.kind, .slice aI o.ints.length cI, .slice aR o.refs.length cR]] w fun e w' => IsErr (okB o) e ∧ Below w.heap.size w w' := by
  have HOK := okB_parts o
  generalize okB o = OK at *
  obtain ⟨k, ints, refs⟩ := o
  obtain ⟨hI, hR, _, _⟩ := hr
  simp only at *
  obtain ⟨W, hW, b0, hbW, hsW⟩ := boxes1 w [.int .i64 k, .slice aI ints.length cI, .slice aR refs.length cR] 26
  have hI' := hI.below hbW
  have hR' := hR.below hbW
  have x0 := b0.cell 0 _ rfl
  have x1 := b0.cell 1 _ rfl
  have x2 := b0.cell 2 _ rfl
  cases hk : inB k 1 99 with
  | false =>
    have HF : Hid (OK = false) := by rw [Hid, HOK, hk, Bool.false_and]
    clear HOK
    have hz' := inB_false hk
    clear hk
    rcases hz' with h1 | ⟨h1, h2⟩
    all_goals
      go_enter Tryd.func107, Tryd.ntmps107
      go_wp2
      go_ret
      exact ⟨isErr_no HF.out _, hW.out ▸ hbW⟩
  | true =>
  rw [hk, Bool.true_and] at HOK
  obtain ⟨h1, h2⟩ := inB_true hk
  clear hk
  cases hp : partsB ints (-1000000) 1000000 with
  | false =>
    have HF : Hid (OK = false) := by rw [Hid, HOK, hp, Bool.false_and]
    clear HOK
    have HP : Hid (_ = _) := hp
    clear hp
    go_enter Tryd.func107, Tryd.ntmps107
    go_wp2_with fail
    rw [hW.out]
    refine (partsOk_any aI cI ints _ _ W hI' hnI).mono ?_
    rintro e w' ⟨rfl, rfl⟩
    rw [HP.out]
    go_wp2
    go_ret
    exact ⟨isErr_no HF.out _, hbW⟩
  | true =>
  rw [hp, Bool.true_and] at HOK
  have HP : Hid (_ = _) := hp
  clear hp
  cases hq : partsB refs 0 31 with
  | false =>
    have HF : Hid (OK = false) := by rw [Hid, HOK, hq]
    clear HOK
    have HQ : Hid (_ = _) := hq
    clear hq
    go_enter Tryd.func107, Tryd.ntmps107
    go_wp2_with fail
    rw [hW.out]
    refine (partsOk_any aI cI ints _ _ W hI' hnI).mono ?_
    rintro e w' ⟨rfl, rfl⟩
    rw [HP.out]
    go_wp2_with fail
    refine (partsOk_any aR cR refs _ _ _ hR' hnR).mono ?_
    rintro e w' ⟨rfl, rfl⟩
    rw [HQ.out]
    go_wp2
    go_ret
    exact ⟨isErr_no HF.out _, hbW⟩
  | true =>
    have HF : Hid (OK = true) := by rw [Hid, HOK, hq]
    clear HOK
    have HQ : Hid (_ = _) := hq
    clear hq
    go_enter Tryd.func107, Tryd.ntmps107
    go_wp2_with fail
    rw [hW.out]
    refine (partsOk_any aI cI ints _ _ W hI' hnI).mono ?_
    rintro e w' ⟨rfl, rfl⟩
    rw [HP.out]
    go_wp2_with fail
    refine (partsOk_any aR cR refs _ _ _ hR' hnR).mono ?_
    rintro e w' ⟨rfl, rfl⟩
    rw [HQ.out]
    go_wp2
    go_ret
    exact ⟨isErr_ok HF.out, hbW⟩

set_option maxHeartbeats 1000000 in
set_option maxRecDepth 100000 in
theorem implObjOk_any (o : ObjV) (aI : Option Addr) (cI : Nat) (aR : Option Addr) (cR : Nat) (w : World) (hg : ErrT w) (hr : ReadsO w aI cI aR cR o) (hnI : o.ints.length ≤ 140737488355328) (hnR : o.refs.length ≤ 140737488355328) :
    Calls Tryd.prog 82 #[.agg #[.int .i64 o.kind, .slice aI o.ints.length cI, .slice aR o.refs.length cR]] w fun e w' => e = .returned (.bool (okB o)) ∧ Below w.heap.size w w' := by
  obtain ⟨W, hW, b0, hbW, hsW⟩ := boxes1 w [.int .i64 o.kind, .slice aI o.ints.length cI, .slice aR o.refs.length cR] 26
  have hr' := hr.below hbW
  have hg' := hg.keep hbW
  have x0 := b0.cell 0 _ rfl
  have x1 := b0.cell 1 _ rfl
  have x2 := b0.cell 2 _ rfl
  go_enter Tryd.func82, Tryd.ntmps82
  go_wp2_with fail
  rw [hW.out]
  refine (checkObj_any o aI cI aR cR W hr' hnI hnR).mono ?_
  rintro e w1 ⟨he, hb1⟩
  have B1 : Below w.heap.size w w1 := hbW.trans (hb1.mono hbW.size)
  rcases he with ⟨hok, rfl⟩ | ⟨hok, s, rfl⟩
  · have HO : Hid (_ = _) := hok
    clear hok
    go_wp2_with fail
    refine (isNo_nil w1).mono ?_
    rintro e w2 ⟨rfl, hb2⟩
    go_wp2
    go_ret
    exact ⟨by rw [HO.out]; rfl, B1.trans (hb2.mono B1.size)⟩
  · have HO : Hid (_ = _) := hok
    clear hok
    go_wp2_with fail
    refine (isNo_hit s w1 (hg'.keep hb1)).mono ?_
    rintro e w2 ⟨rfl, hb2⟩
    go_wp2
    go_ret
    exact ⟨by rw [HO.out]; rfl, B1.trans (hb2.mono B1.size)⟩
end Go.Proofs.YtbaocehcnjdkkaaDoor

/- The walk of impl.foundObj. -/
namespace Go.Proofs.YtbaocehcnjdkkaaDoor
open Go.RowKit

set_option maxHeartbeats 1000000 in
set_option maxRecDepth 100000 in
theorem foundObj_ok (k : Int) (aI : Option Addr) (nI cI : Nat) (aR : Option Addr) (nR cR : Nat) (w : World) : Calls Tryd.prog 119 #[.agg #[.int .i64 k, .slice aI nI cI, .slice aR nR cR], .nilIface] w fun e w' => e = .returned (.tuple #[.agg #[.int .i64 k, .slice aI nI cI, .slice aR nR cR], .bool true]) ∧ Below w.heap.size w w' := by
  obtain ⟨W, hW, b0, b1, hbW, hsW⟩ := boxes2 w [.int .i64 k, .slice aI nI cI, .slice aR nR cR] [.int .i64 0, .slice none 0 0, .slice none 0 0] 26 26
  go_enter Tryd.func119, Tryd.ntmps119
  go_wp2_with fail
  rw [hW.out]
  refine (isNo_nil W).mono ?_
  rintro e w1 ⟨rfl, hb1⟩
  have B1 : Below w.heap.size w w1 := hbW.trans (hb1.mono hbW.size)
  obtain ⟨x0, x1, x2, _, _, _⟩ := (b0.below hb1 b0.lt).three
  have bR := b1.below hb1 b1.lt
  obtain ⟨y0, y1, y2, f0, f1, f2⟩ := bR.three
  obtain ⟨WF, hWF, bF, hwF, _⟩ := box3_fill bR (.int .i64 k) (.slice aI nI cI) (.slice aR nR cR)
  have HB : Hid (Below w.heap.size w WF) := B1.trans (hwF.below (by omega) (by have := hb1.size; omega))
  clear hwF hb1 B1
  go_wp2
  rw [hWF.out]
  obtain ⟨q0, q1, q2, _, _, _⟩ := bF.three
  exact bodyPost_ret (v := .tuple #[.agg #[.int .i64 k, .slice aI nI cI, .slice aR nR cR], .bool true]) (by simp [results, Tryd.results119, go_sem, q0, q1, q2]) rfl ⟨rfl, HB.out⟩

set_option maxHeartbeats 1000000 in
set_option maxRecDepth 100000 in
theorem foundObj_no (k : Int) (aI : Option Addr) (nI cI : Nat) (aR : Option Addr) (nR cR : Nat) (s : ByteArray) (w : World) (hg : ErrT w) : Calls Tryd.prog 119 #[.agg #[.int .i64 k, .slice aI nI cI, .slice aR nR cR], .iface 131 (.agg #[.string s])] w fun e w' => e = .returned (.tuple #[.agg #[.int .i64 0, .slice none 0 0, .slice none 0 0], .bool false]) ∧ Below w.heap.size w w' := by
  obtain ⟨W, hW, b0, b1, hbW, hsW⟩ := boxes2 w [.int .i64 k, .slice aI nI cI, .slice aR nR cR] [.int .i64 0, .slice none 0 0, .slice none 0 0] 26 26
  go_enter Tryd.func119, Tryd.ntmps119
  go_wp2_with fail
  rw [hW.out]
  refine (isNo_hit s W (hg.keep hbW)).mono ?_
  rintro e w1 ⟨rfl, hb1⟩
  have B1 : Below w.heap.size w w1 := hbW.trans (hb1.mono hbW.size)
  have bR := b1.below hb1 b1.lt
  obtain ⟨y0, y1, y2, f0, f1, f2⟩ := bR.three
  obtain ⟨WF, hWF, bF, hwF, _⟩ := box3_fill bR (.int .i64 0) (.slice none 0 0) (.slice none 0 0)
  have HB : Hid (Below w.heap.size w WF) := B1.trans (hwF.below (by omega) (by have := hb1.size; omega))
  clear hwF hb1 B1
  go_wp2
  rw [hWF.out]
  obtain ⟨q0, q1, q2, _, _, _⟩ := bF.three
  exact bodyPost_ret (v := .tuple #[.agg #[.int .i64 0, .slice none 0 0, .slice none 0 0], .bool false]) (by simp [results, Tryd.results119, go_sem, q0, q1, q2]) rfl ⟨rfl, HB.out⟩
end Go.Proofs.YtbaocehcnjdkkaaDoor

/- The walks of impl.readObj and impl.GetObj. -/
namespace Go.Proofs.YtbaocehcnjdkkaaDoor
open Go.RowKit

/-- What readObj answers. -/
def ReadAns (w' : World) (lo : Nat) (x : Option ObjV) (e : Ending) : Prop := match x with
  | some o => ∃ aI cI aR cR ev, e = .returned (.tuple #[.agg #[.int .i64 o.kind, .slice aI o.ints.length cI, .slice aR o.refs.length cR], ev]) ∧ IsErr (okB o) (.returned ev) ∧ OwnO w' lo w'.heap.size aI cI aR cR o
  | none => ∃ s, e = .returned (.tuple #[.agg #[.int .i64 0, .slice none 0 0, .slice none 0 0], .iface 131 (.agg #[.string s])])
theorem readAns_none {w' : World} {lo : Nat} {x : Option ObjV} (h : x = none) (s : ByteArray) : ReadAns w' lo x (.returned (.tuple #[.agg #[.int .i64 0, .slice none 0 0, .slice none 0 0], .iface 131 (.agg #[.string s])])) := by
  subst h; exact ⟨s, rfl⟩
theorem readAns_some {w' : World} {lo : Nat} {x : Option ObjV} {o : ObjV} (h : x = some o) {aI : Option Addr} {cI : Nat} {aR : Option Addr} {cR : Nat} {ev : Value} (he : IsErr (okB o) (.returned ev)) (ho : OwnO w' lo w'.heap.size aI cI aR cR o) : ReadAns w' lo x (.returned (.tuple #[.agg #[.int .i64 o.kind, .slice aI o.ints.length cI, .slice aR o.refs.length cR], ev])) := by
  subst h; exact ⟨aI, cI, aR, cR, ev, rfl, he, ho⟩
theorem isErr_ret {ok : Bool} {e : Ending} (h : IsErr ok e) : ∃ ev, e = .returned ev := by
  rcases h with ⟨_, rfl⟩ | ⟨_, s, rfl⟩
  · exact ⟨_, rfl⟩
  · exact ⟨_, rfl⟩

theorem readAll_none0 {zs : List Int} (h : getAt zs 0 = none) : readAll zs = none := by unfold readAll; rw [h]
theorem readAll_none1 {zs : List Int} {k : Int} {p : Nat} (h : getAt zs 0 = some (k, p)) (h1 : partsAt zs p = none) : readAll zs = none := by unfold readAll; rw [h]; simp only; rw [h1]
theorem readAll_none2 {zs : List Int} {k : Int} {p q : Nat} {is : List Int} (h : getAt zs 0 = some (k, p)) (h1 : partsAt zs p = some (is, q)) (h2 : partsAt zs q = none) : readAll zs = none := by
  unfold readAll; rw [h]; simp only; rw [h1]; simp only; rw [h2]
theorem readAll_at {zs : List Int} {k : Int} {p q r : Nat} {is rs : List Int} (h : getAt zs 0 = some (k, p)) (h1 : partsAt zs p = some (is, q)) (h2 : partsAt zs q = some (rs, r)) : readAll zs = if r = zs.length then some ⟨k, is, rs⟩ else none := by
  unfold readAll; rw [h]; simp only; rw [h1]; simp only; rw [h2]

set_option maxHeartbeats 4000000 in
set_option maxRecDepth 100000 in
theorem readObj_any (a : Option Addr) (c : Nat) (zs : List Int) (w : World) (hr : Reads w a zs) (hl : zs.length ≤ 70368744177664) (hcap : zs.length ≤ c) :
    Calls Tryd.prog 120 #[.slice a zs.length c] w fun e w' => ReadAns w' w.heap.size (readAll zs) e ∧ Below w.heap.size w w' := by
  generalize hXX : readAll zs = X
  have HXX : Hid (readAll zs = X) := hXX
  clear hXX
  obtain ⟨W, hW, b0, hbW, hsW⟩ := boxes1 w [.int .i64 0, .slice none 0 0, .slice none 0 0] 26
  obtain ⟨x0, x1, x2, f0, f1, f2⟩ := b0.three
  have hrW := hr.below hbW
  have hblt := b0.lt
  cases hg : getAt zs 0 with
  | none =>
    have HX : Hid (X = none) := HXX.out ▸ readAll_none0 hg
    have HG : Hid (_ = _) := hg
    clear hg
    obtain ⟨WF, hWF, bF, hwF, _⟩ := box3_fill b0 (.int .i64 0) (.slice none 0 0) (.slice none 0 0)
    have HB : Hid (Below w.heap.size w WF) := hbW.trans (hwF.below (by omega) (by omega))
    clear hwF
    go_enter Tryd.func120, Tryd.ntmps120
    go_wp2_with fail
    rw [hW.out]
    refine (implGetInt_any a c zs 0 W hrW hl hcap).mono ?_
    rintro e w' ⟨rfl, rfl⟩
    rw [HG.out]
    simp only [triple]
    go_wp2
    rw [hWF.out]
    obtain ⟨q0, q1, q2, _, _, _⟩ := bF.three
    exact bodyPost_ret (v := .tuple #[.agg #[.int .i64 0, .slice none 0 0, .slice none 0 0], .iface 131 (.agg #[.string _])]) (by simp [results, Tryd.results120, go_sem, q0, q1, q2]; rfl) rfl ⟨readAns_none HX.out _, HB.out⟩
  | some t =>
  obtain ⟨k, p⟩ := t
  have HG : Hid (_ = _) := hg
  go_enter Tryd.func120, Tryd.ntmps120
  go_wp2_with fail
  rw [hW.out]
  refine (implGetInt_any a c zs 0 W hrW hl hcap).mono ?_
  rintro e w' ⟨rfl, rfl⟩
  rw [HG.out]
  simp only [triple]
  go_wp2_with fail
  refine (readParts_any a c zs p w' hrW hl hcap).mono ?_
  rintro e w1 ⟨hans, hb1⟩
  have B1 : Below w.heap.size w w1 := hbW.trans (hb1.mono hbW.size)
  have b1 := b0.below hb1 b0.lt
  obtain ⟨y0, y1, y2, e0, e1, e2⟩ := b1.three
  have hs1 := hb1.size
  cases hp : partsAt zs p with
  | none =>
    rw [hp] at hans
    obtain ⟨s, rfl⟩ := hans
    have HX : Hid (X = none) := HXX.out ▸ readAll_none1 hg hp
    clear hg hp
    obtain ⟨WF, hWF, bF, hwF, _⟩ := box3_fill b1 (.int .i64 0) (.slice none 0 0) (.slice none 0 0)
    have HB : Hid (Below w.heap.size w WF) := B1.trans (hwF.below (by omega) (by omega))
    clear hwF
    go_wp2
    rw [hWF.out]
    obtain ⟨q0, q1, q2, _, _, _⟩ := bF.three
    exact bodyPost_ret (v := .tuple #[.agg #[.int .i64 0, .slice none 0 0, .slice none 0 0], .iface 131 (.agg #[.string s])]) (by simp [results, Tryd.results120, go_sem, q0, q1, q2]) rfl ⟨readAns_none HX.out _, HB.out⟩
  | some t =>
  obtain ⟨is, q⟩ := t
  rw [hp] at hans
  obtain ⟨aI, cI, rfl, hoI⟩ := hans
  have hq5 := (partsAt_canon zs hr.1 p is q hp).1
  go_wp2_with fail
  refine (readParts_any a c zs q w1 (hr.below B1) hl hcap).mono ?_
  rintro e w2 ⟨hans, hb2⟩
  have B2 : Below w.heap.size w w2 := B1.trans (hb2.mono B1.size)
  have b2 := b1.below hb2 b1.lt
  obtain ⟨z0, z1, z2, g0, g1, g2⟩ := b2.three
  have hs2 := hb2.size
  have hoI2 := hoI.below hb2
  clear y0 y1 y2 e0 e1 e2 x0 x1 x2 f0 f1 f2
  cases hp2 : partsAt zs q with
  | none =>
    rw [hp2] at hans
    obtain ⟨s, rfl⟩ := hans
    have HX : Hid (X = none) := HXX.out ▸ readAll_none2 hg hp hp2
    clear hg hp hp2
    obtain ⟨WF, hWF, bF, hwF, _⟩ := box3_fill b2 (.int .i64 0) (.slice none 0 0) (.slice none 0 0)
    have HB : Hid (Below w.heap.size w WF) := B2.trans (hwF.below (by omega) (by omega))
    clear hwF
    go_wp2
    rw [hWF.out]
    obtain ⟨q0, q1, q2, _, _, _⟩ := bF.three
    exact bodyPost_ret (v := .tuple #[.agg #[.int .i64 0, .slice none 0 0, .slice none 0 0], .iface 131 (.agg #[.string s])]) (by simp [results, Tryd.results120, go_sem, q0, q1, q2]) rfl ⟨readAns_none HX.out _, HB.out⟩
  | some t =>
  obtain ⟨rs, r⟩ := t
  rw [hp2] at hans
  obtain ⟨aR, cR, rfl, hoR⟩ := hans
  have hr5 := (partsAt_canon zs hr.1 q rs r hp2).1
  have hX := readAll_at hg hp hp2
  clear hg hp hp2
  by_cases hrl : r = zs.length
  case neg =>
    have HX : Hid (X = none) := by rw [Hid, ← HXX.out, hX, if_neg hrl]
    have hrb : ((r : Int) == (zs.length : Int)) = false := by simp; omega
    clear hX hrl
    obtain ⟨WF, hWF, bF, hwF, _⟩ := box3_fill b2 (.int .i64 0) (.slice none 0 0) (.slice none 0 0)
    have HB : Hid (Below w.heap.size w WF) := B2.trans (hwF.below (by omega) (by omega))
    clear hwF
    go_wp2
    rw [hWF.out]
    obtain ⟨q0, q1, q2, _, _, _⟩ := bF.three
    exact bodyPost_ret (v := .tuple #[.agg #[.int .i64 0, .slice none 0 0, .slice none 0 0], .iface 131 (.agg #[.string _])]) (by simp [results, Tryd.results120, go_sem, q0, q1, q2]; rfl) rfl ⟨readAns_none HX.out _, HB.out⟩
  case pos =>
  have HX : Hid (X = some ⟨k, is, rs⟩) := by rw [Hid, ← HXX.out, hX, if_pos hrl]
  have hrb : ((r : Int) == (zs.length : Int)) = true := by simp; omega
  clear hX hrl
  obtain ⟨W3, hW3, b3, hbW3, hsW3⟩ := boxes1 w2 [.int .i64 k, .slice aI is.length cI, .slice aR rs.length cR] 26
  have hO3 : OwnO W3 w'.heap.size w2.heap.size aI cI aR cR ⟨k, is, rs⟩ := ⟨(hoI2.below hbW3).widen (Nat.le_refl _) (by omega) (by omega), (hoR.below hbW3).widen (by omega) (by omega) (by omega), fun j hj hj' => by have := (hoI.lt j hj).2; have := (hoR.lt j hj').1; omega⟩
  have b2' := b2.below hbW3 b2.lt
  have hkeep : ∀ w'', Below W3.heap.size W3 w'' → Box w'' w2.heap.size [.int .i64 k, .slice aI is.length cI, .slice aR rs.length cR] 26 ∧ Box w'' w.heap.size [.int .i64 0, .slice none 0 0, .slice none 0 0] 26 :=
    fun w'' hh => ⟨b3.below hh b3.lt, b2'.below hh b2'.lt⟩
  have B3 : Below w.heap.size w W3 := B2.trans (hbW3.mono B2.size)
  go_wp2_with fail
  rw [hW3.out]
  have hk0 := hkeep W3 (Below.refl _ _)
  have hcells : ∀ w'', Below W3.heap.size W3 w'' → (w''.cell? ⟨w2.heap.size, 0, none⟩ = some (.int .i64 k) ∧ w''.cell? ⟨w2.heap.size, 1, none⟩ = some (.slice aI is.length cI) ∧ w''.cell? ⟨w2.heap.size, 2, none⟩ = some (.slice aR rs.length cR)) ∧ (w''.cell? ⟨w.heap.size, 0, none⟩ = some (.int .i64 0) ∧ w''.cell? ⟨w.heap.size, 1, none⟩ = some (.slice none 0 0) ∧ w''.cell? ⟨w.heap.size, 2, none⟩ = some (.slice none 0 0)) ∧ (w''.frozen? ⟨w.heap.size, 0, none⟩ = false ∧ w''.frozen? ⟨w.heap.size, 1, none⟩ = false ∧ w''.frozen? ⟨w.heap.size, 2, none⟩ = false) := by
    intro w'' hh
    obtain ⟨ba, bb⟩ := hkeep w'' hh
    exact ⟨⟨ba.cell 0 _ rfl, ba.cell 1 _ rfl, ba.cell 2 _ rfl⟩, ⟨bb.cell 0 _ rfl, bb.cell 1 _ rfl, bb.cell 2 _ rfl⟩, bb.frozen 0, bb.frozen 1, bb.frozen 2⟩
  have hh := hcells W3 (Below.refl _ _)
  clear hk0
  have hne : w.heap.size < w2.heap.size := by omega
  have hne' : ¬ (w2.heap.size = w.heap.size) := by omega
  go_region_held3 (fun w'' => w''.cell? ⟨w2.heap.size, 0, none⟩ = some (.int .i64 k) ∧ w''.cell? ⟨w2.heap.size, 1, none⟩ = some (.slice aI is.length cI) ∧ w''.cell? ⟨w2.heap.size, 2, none⟩ = some (.slice aR rs.length cR))
    (first | exact (hcells _ hw5).1 | exact ⟨((((hkeep _ hw5).1.other hne').other hne').other hne').cell 0 _ rfl, ((((hkeep _ hw5).1.other hne').other hne').other hne').cell 1 _ rfl, ((((hkeep _ hw5).1.other hne').other hne').other hne').cell 2 _ rfl⟩ | go_keep)
    (first | (go_at_call 107; refine (checkObj_any ⟨k, is, rs⟩ aI cI aR cR _ hO3.reads.drew (by simp only; omega) (by simp only; omega)).mono ?_; rintro e w5 ⟨hie, hb5⟩; obtain ⟨ev, rfl⟩ := isErr_ret hie; have hw5 : Below W3.heap.size W3 w5 := (Below.refl _ _).drew.trans hb5; obtain ⟨⟨m0, m1, m2⟩, ⟨y0, y1, y2⟩, e0, e1, e2⟩ := hcells _ hw5))
  obtain ⟨WF, hWF, bF, hwF, hsF⟩ := box3_fill (hkeep _ hw5).2 (.int .i64 k) (.slice aI is.length cI) (.slice aR rs.length cR)
  rw [hWF.out]
  go_wp2
  obtain ⟨q0, q1, q2, _, _, _⟩ := bF.three
  have hs5 := hw5.size
  have hOF : OwnO WF w'.heap.size w2.heap.size aI cI aR cR ⟨k, is, rs⟩ := (hO3.below hw5).within hwF (.inr (by omega))
  exact bodyPost_ret (v := .tuple #[.agg #[.int .i64 k, .slice aI is.length cI, .slice aR rs.length cR], ev]) (by simp [results, Tryd.results120, go_sem, q0, q1, q2]) rfl ⟨readAns_some HX.out hie (hOF.widen (by omega) (by omega) (Nat.le_refl _)), (B3.trans (hw5.mono B3.size)).trans (hwF.below (Nat.le_refl _) (by omega))⟩

set_option maxHeartbeats 4000000 in
set_option maxRecDepth 100000 in
theorem implGetObj_any (a : Option Addr) (c : Nat) (zs : List Int) (w : World) (hg : ErrT w) (hr : Reads w a zs) (hl : zs.length ≤ 70368744177664) (hcap : zs.length ≤ c) :
    Calls Tryd.prog 113 #[.slice a zs.length c] w fun e w' => ∃ aI cI aR cR o ok, e = .returned (.tuple #[.agg #[.int .i64 o.kind, .slice aI o.ints.length cI, .slice aR o.refs.length cR], .bool ok]) ∧ Hid (getPair zs = (o, ok)) ∧ OwnO w' w.heap.size w'.heap.size aI cI aR cR o ∧ Below w.heap.size w w' := by
  have HN : Hid (readAll zs = none → getPair zs = (noO, false)) := getPair_none zs
  have HBD : Hid (∀ o, readAll zs = some o → okB o = false → getPair zs = (noO, false)) := fun o => getPair_bad zs o
  have HGD : Hid (∀ o, readAll zs = some o → okB o = true → getPair zs = (o, true)) := fun o => getPair_some zs hr.1 o
  generalize getPair zs = PR at *
  obtain ⟨W, hW, b0, hbW, hsW⟩ := boxes1 w [.int .i64 0, .slice none 0 0, .slice none 0 0] 26
  go_enter Tryd.func113, Tryd.ntmps113
  go_wp2_with fail
  rw [hW.out]
  refine (readObj_any a c zs W (hr.below hbW) hl hcap).mono ?_
  rintro e w1 ⟨hans, hb1⟩
  have B1 : Below w.heap.size w w1 := hbW.trans (hb1.mono hbW.size)
  have b1 := b0.below hb1 b0.lt
  have hs1 := hb1.size
  cases hx : readAll zs with
  | none =>
    have HP : Hid (_ = _) := HN.out hx
    rw [hx] at hans
    obtain ⟨s, rfl⟩ := hans
    clear hx
    go_wp2_with fail
    refine (foundObj_no 0 none 0 0 none 0 0 s w1 (hg.keep B1)).mono ?_
    rintro e w2 ⟨rfl, hb2⟩
    have B2 : Below w.heap.size w w2 := B1.trans (hb2.mono B1.size)
    have b2 := b1.below hb2 b1.lt
    have hs2 := hb2.size
    obtain ⟨y0, y1, y2, f0, f1, f2⟩ := b2.three
    obtain ⟨WF, hWF, bF, hwF, _⟩ := box3_fill b2 (.int .i64 0) (.slice none 0 0) (.slice none 0 0)
    have HB : Hid (Below w.heap.size w WF) := B2.trans (hwF.below (by omega) (by omega))
    clear hwF
    go_wp2
    rw [hWF.out]
    obtain ⟨q0, q1, q2, _, _, _⟩ := bF.three
    exact bodyPost_ret (v := .tuple #[.agg #[.int .i64 0, .slice none 0 0, .slice none 0 0], .bool false]) (by simp [results, Tryd.results113, go_sem, q0, q1, q2]) rfl ⟨none, 0, none, 0, noO, false, rfl, HP.out, ⟨ownI_nil _ _ _ (Nat.le_refl _), ownI_nil _ _ _ (Nat.le_refl _), fun k hk => by cases hk⟩, HB.out⟩
  | some o =>
    rw [hx] at hans
    obtain ⟨aI, cI, aR, cR, ev, rfl, hie, ho⟩ := hans
    rcases hie with ⟨hok, hev⟩ | ⟨hok, s, hev⟩
    · obtain rfl : ev = .nilIface := by simpa using hev
      have HP : Hid (_ = _) := HGD.out o hx hok
      clear hx hok hev
      go_wp2_with fail
      refine (foundObj_ok o.kind aI o.ints.length cI aR o.refs.length cR w1).mono ?_
      rintro e w2 ⟨rfl, hb2⟩
      have B2 : Below w.heap.size w w2 := B1.trans (hb2.mono B1.size)
      have b2 := b1.below hb2 b1.lt
      have hs2 := hb2.size
      obtain ⟨y0, y1, y2, f0, f1, f2⟩ := b2.three
      obtain ⟨WF, hWF, bF, hwF, hsF⟩ := box3_fill b2 (.int .i64 o.kind) (.slice aI o.ints.length cI) (.slice aR o.refs.length cR)
      have HB : Hid (Below w.heap.size w WF) := B2.trans (hwF.below (by omega) (by omega))
      have HO : Hid (OwnO WF w.heap.size WF.heap.size aI cI aR cR o) := ((ho.below hb2).within hwF (.inr (by omega))).widen (by omega) (by omega) (Nat.le_refl _)
      clear hwF
      go_wp2
      rw [hWF.out]
      obtain ⟨q0, q1, q2, _, _, _⟩ := bF.three
      exact bodyPost_ret (v := .tuple #[.agg #[.int .i64 o.kind, .slice aI o.ints.length cI, .slice aR o.refs.length cR], .bool true]) (by simp [results, Tryd.results113, go_sem, q0, q1, q2]) rfl ⟨aI, cI, aR, cR, o, true, rfl, HP.out, HO.out, HB.out⟩
    · obtain rfl : ev = _ := by simpa using hev
      have HP : Hid (_ = _) := HBD.out o hx hok
      clear hx hok hev
      go_wp2_with fail
      refine (foundObj_no o.kind aI o.ints.length cI aR o.refs.length cR s w1 (hg.keep B1)).mono ?_
      rintro e w2 ⟨rfl, hb2⟩
      have B2 : Below w.heap.size w w2 := B1.trans (hb2.mono B1.size)
      have b2 := b1.below hb2 b1.lt
      have hs2 := hb2.size
      obtain ⟨y0, y1, y2, f0, f1, f2⟩ := b2.three
      obtain ⟨WF, hWF, bF, hwF, _⟩ := box3_fill b2 (.int .i64 0) (.slice none 0 0) (.slice none 0 0)
      have HB : Hid (Below w.heap.size w WF) := B2.trans (hwF.below (by omega) (by omega))
      clear hwF
      go_wp2
      rw [hWF.out]
      obtain ⟨q0, q1, q2, _, _, _⟩ := bF.three
      exact bodyPost_ret (v := .tuple #[.agg #[.int .i64 0, .slice none 0 0, .slice none 0 0], .bool false]) (by simp [results, Tryd.results113, go_sem, q0, q1, q2]) rfl ⟨none, 0, none, 0, noO, false, rfl, HP.out, ⟨ownI_nil _ _ _ (Nat.le_refl _), ownI_nil _ _ _ (Nat.le_refl _), fun k hk => by cases hk⟩, HB.out⟩
end Go.Proofs.YtbaocehcnjdkkaaDoor

/- The walk of impl.readSlot. -/
namespace Go.Proofs.YtbaocehcnjdkkaaDoor
open Go.RowKit

theorem strOf_data (sub : List Int) (j : Nat) (hb : Bytes sub) (h : j < sub.length) : (((strOf sub).data.toList.getD j 0).toNat : Int) = sub.getD j 0 := by
  have hz := hb (sub.getD j 0) (by simp [List.getD, h])
  have e : (strOf sub).data.toList.getD j 0 = UInt8.ofNat (sub.getD j 0).toNat := by
    unfold strOf
    simp [List.getD, h]
  rw [e]
  generalize sub.getD j 0 = z at *
  have : (UInt8.ofNat z.toNat).toNat = z.toNat := by simp; omega
  rw [this]
  omega
theorem strOf_len (sub : List Int) : (strOf sub).size = sub.length := by simp [strOf, ByteArray.size]

/-- The bytes of a text, in a row of their own. -/
theorem bytes_of_text (w : World) (sub : List Int) (hb : Bytes sub) :
    ∃ W c, (convert 9 22 (.string (strOf sub))).run Tryd.prog w = .ok (.slice (some ⟨w.heap.size, 0, none⟩) sub.length c) W ∧ Reads W (some ⟨w.heap.size, 0, none⟩) sub ∧ sub.length ≤ c ∧ Below w.heap.size w W := by
  have h := Lib.run_convert_string_bytes (P := Tryd.prog) w 9 22 5 (strOf sub) Tryd.underlying9 Tryd.underlying22 Tryd.underlying5
  rw [strOf_len] at h
  refine ⟨_, _, h, ⟨hb, fun hne => ⟨w.heap.size, 0, rfl, fun i hi => ?_⟩⟩, ?_, ?_⟩
  · rw [Nat.zero_add, Lib.bytesWorld_cell w 5 (strOf sub) i (by rw [strOf_len]; exact hi), strOf_data sub i hb hi]
  · exact grownCap_ge _ _ _ _
  · exact ⟨rfl, rfl, rfl, by rw [Lib.bytesWorld_size]; omega, fun k hk => Lib.bytesWorld_at_old w _ _ k hk⟩

/-- What readSlot answers. -/
def SlotAns (w' : World) (lo : Nat) (x : Option (SlotV × Nat)) (e : Ending) : Prop := match x with
  | some (s, q) => ∃ t : SlotA, e = .returned (.tuple #[.agg t.cells.toArray, .int .i64 (q : Nat), .bool true]) ∧ t.v = s ∧ t.own w' lo w'.heap.size
  | none => e = .returned (.tuple #[.agg zeroS.cells.toArray, .int .i64 0, .bool false])
theorem slotAns_none {w' : World} {lo : Nat} {x : Option (SlotV × Nat)} (h : x = none) : SlotAns w' lo x (.returned (.tuple #[.agg #[.bool false, .int .i64 0, .slice none 0 0, .slice none 0 0], .int .i64 0, .bool false])) := by subst h; rfl
theorem slotAns_some {w' : World} {lo : Nat} {x : Option (SlotV × Nat)} {s : SlotV} {q : Nat} (h : x = some (s, q)) (t : SlotA) (hv : t.v = s) (ho : t.own w' lo w'.heap.size) : SlotAns w' lo x (.returned (.tuple #[.agg t.cells.toArray, .int .i64 (q : Nat), .bool true])) := by subst h; exact ⟨t, rfl, hv, ho⟩

theorem slotAt_none {zs : List Int} {p : Nat} (h : getAt zs (p : Int) = none) : slotAt zs p = none := by unfold slotAt; rw [h]
theorem slotAt_out {zs : List Int} {p q : Nat} {n : Int} (h : getAt zs (p : Int) = some (n, q)) (hn : n < 0 ∨ (zs.length : Int) - (q : Int) < n) : slotAt zs p = none := by unfold slotAt; rw [h]; simp only; rw [if_pos hn]
theorem slotAt_zero {zs : List Int} {p q : Nat} (h : getAt zs (p : Int) = some (0, q)) (hq : q ≤ zs.length) : slotAt zs p = some (noS, q) := by unfold slotAt; rw [h]; simp only; rw [if_neg (by omega), if_pos trivial]
theorem slotAt_in {zs : List Int} {p q m : Nat} (h : getAt zs (p : Int) = some ((m : Int), q)) (hm : 0 < m) (hq : q + m ≤ zs.length) : slotAt zs p = if (getPair ((zs.drop q).take m)).2 then some (⟨true, (getPair ((zs.drop q).take m)).1⟩, q + m) else none := by
  unfold slotAt; rw [h]; simp only [Int.toNat_natCast]; rw [if_neg (by omega), if_neg (by omega)]
theorem text_bad {zs : List Int} {p : Nat} (h : getAt zs (p : Int) = none ∨ ∃ n q, getAt zs (p : Int) = some (n, q) ∧ (n < 0 ∨ (zs.length : Int) - (q : Int) < n)) : textOf zs (p : Int) = .tuple #[.string ⟨#[]⟩, .int .i64 0, .bool false] := by
  unfold textOf
  rcases h with h | ⟨n, q, h, hn⟩
  · rw [h]
  · rw [h]; simp only; rw [if_neg (by omega)]
theorem text_in {zs : List Int} {p q m : Nat} (h : getAt zs (p : Int) = some ((m : Int), q)) (hq : q + m ≤ zs.length) : textOf zs (p : Int) = .tuple #[.string (strOf ((zs.drop q).take m)), .int .i64 ((q + m : Nat) : Int), .bool true] := by
  unfold textOf; rw [h]; simp only [Int.toNat_natCast]; rw [if_pos (by omega)]
  rfl

set_option maxHeartbeats 4000000 in
set_option maxRecDepth 100000 in
theorem readSlot_any (a : Option Addr) (c : Nat) (zs : List Int) (p : Nat) (w : World) (hg : ErrT w) (hr : Reads w a zs) (hl : zs.length ≤ 1099511627776) (hcap : zs.length ≤ c) :
    Calls Tryd.prog 88 #[.slice a zs.length c, .int .i64 (p : Int)] w fun e w' => SlotAns w' w.heap.size (slotAt zs p) e ∧ Below w.heap.size w w' := by
  obtain ⟨W, hW, b0, hbW, hsW⟩ := boxes1 w [.bool false, .int .i64 0, .slice none 0 0, .slice none 0 0] 28
  have CT := implGetText_any a c zs (p : Int) W (hr.below hbW) (by omega) hcap
  obtain ⟨x0, x1, x2, x3, f0, f1, f2, f3⟩ := b0.four
  have hby : Bytes zs := hr.1
  by_cases hbad : getAt zs (p : Int) = none ∨ ∃ n q, getAt zs (p : Int) = some (n, q) ∧ (n < 0 ∨ (zs.length : Int) - (q : Int) < n)
  · have HX : Hid (slotAt zs p = none) := by rcases hbad with h | ⟨n, q, h, hn⟩; exact slotAt_none h; exact slotAt_out h hn
    rw [text_bad hbad] at CT
    generalize slotAt zs p = X at *
    obtain ⟨WF, hWF, bF, hwF, hsF⟩ := box4_fill b0 (.bool false) (.int .i64 0) (.slice none 0 0) (.slice none 0 0)
    have HB : Hid (Below w.heap.size w WF) := hbW.trans (hwF.below (Nat.le_refl _) (by omega))
    clear hwF hbad
    go_enter Tryd.func88, Tryd.ntmps88
    go_wp2_with fail
    rw [hW.out]
    refine CT.mono ?_
    clear CT
    rintro e w1 ⟨rfl, rfl⟩
    go_wp2
    rw [hWF.out]
    obtain ⟨q0, q1, q2, q3, _⟩ := bF.four
    exact bodyPost_ret (v := .tuple #[.agg #[.bool false, .int .i64 0, .slice none 0 0, .slice none 0 0], .int .i64 0, .bool false]) (by simp [results, Tryd.results88, go_sem, q0, q1, q2, q3]) rfl ⟨slotAns_none HX.out, HB.out⟩
  obtain ⟨n, q, hgt, hn⟩ : ∃ n q, getAt zs (p : Int) = some (n, q) ∧ ¬ (n < 0 ∨ (zs.length : Int) - (q : Int) < n) := by
    cases h : getAt zs (p : Int) with
    | none => exact absurd (.inl h) hbad
    | some r => exact ⟨r.1, r.2, rfl, fun hn => hbad (.inr ⟨r.1, r.2, h, hn⟩)⟩
  obtain ⟨m, rfl⟩ : ∃ m : Nat, n = (m : Int) := ⟨n.toNat, by omega⟩
  have hqm : q + m ≤ zs.length := by omega
  rw [text_in hgt hqm] at CT
  by_cases hm : m = 0
  · subst hm
    have HX : Hid (slotAt zs p = some (noS, q)) := slotAt_zero hgt (by omega)
    generalize slotAt zs p = X at *
    have hse : strOf ((zs.drop q).take 0) = ⟨#[]⟩ := by simp [strOf]
    rw [hse] at CT
    simp only [Nat.add_zero] at CT
    obtain ⟨WF, hWF, bF, hwF, hsF⟩ := box4_fill b0 (.bool false) (.int .i64 0) (.slice none 0 0) (.slice none 0 0)
    have HB : Hid (Below w.heap.size w WF) := hbW.trans (hwF.below (Nat.le_refl _) (by omega))
    clear hwF hbad hse hgt hn
    go_enter Tryd.func88, Tryd.ntmps88
    go_wp2_with fail
    rw [hW.out]
    refine CT.mono ?_
    clear CT
    rintro e w1 ⟨rfl, rfl⟩
    go_wp2
    rw [hWF.out]
    obtain ⟨q0, q1, q2, q3, _⟩ := bF.four
    exact bodyPost_ret (v := .tuple #[.agg #[.bool false, .int .i64 0, .slice none 0 0, .slice none 0 0], .int .i64 (q : Nat), .bool true]) (by simp [results, Tryd.results88, go_sem, q0, q1, q2, q3]) rfl ⟨slotAns_some HX.out zeroS rfl (own_zero _ _ _ (Nat.le_refl _)), HB.out⟩
  have HX : Hid (_ = _) := slotAt_in hgt (by omega) hqm
  have hsb : Bytes ((zs.drop q).take m) := fun z hz => hby z (List.mem_of_mem_drop (List.mem_of_mem_take hz))
  have hsl : ((zs.drop q).take m).length = m := by rw [List.length_take, List.length_drop]; omega
  generalize slotAt zs p = X at *
  generalize (zs.drop q).take m = sub at *
  have HSL : Hid (_ = _) := hsl
  have hsub1 : 1 ≤ sub.length := by omega
  have hsub2 : sub.length ≤ 1099511627776 := by omega
  obtain ⟨WC, cc, hcv, hrC, hcc, hbC⟩ := bytes_of_text W sub hsb
  have hne : (strOf sub).toList.isEmpty = false := by
    have h1 : (strOf sub).toList.length = sub.length := by rw [ByteArray.toList_eq]; simp [strOf]
    cases h2 : (strOf sub).toList with
    | nil => rw [h2] at h1; simp only [List.length_nil] at h1; omega
    | cons x r => rfl
  have hsC := hbC.size
  have CG := implGetObj_any (some ⟨W.heap.size, 0, none⟩) cc sub WC ((hg.keep hbW).keep hbC) hrC (by omega) hcc
  have b0C := b0.below hbC b0.lt
  clear hbad hgt hn hsl hby
  generalize strOf sub = str at *
  go_enter Tryd.func88, Tryd.ntmps88
  go_wp2_with fail
  rw [hW.out]
  refine CT.mono ?_
  clear CT
  rintro e w1 ⟨rfl, rfl⟩
  go_wp2_with fail
  have hWe : w1.heap.size = w.heap.size + 1 := hsW
  rw [hWe] at CG
  refine CG.mono ?_
  clear CG hcv
  rintro e w2 ⟨aI, cI, aR, cR, o, ok, rfl, HGP, ho2, hb2⟩
  rw [HGP.out] at HX
  simp only at HX
  have hs2 := hb2.size
  have B2 : Below w.heap.size w w2 := (hbW.trans (hbC.mono (by omega))).trans (hb2.mono (by omega))
  have b02 := b0C.below hb2 b0C.lt
  obtain ⟨W3, hW3, b3, hb3, hs3⟩ := boxes1 w2 [.int .i64 o.kind, .slice aI o.ints.length cI, .slice aR o.refs.length cR] 26
  have b03 := b02.below hb3 b02.lt
  have ho3 := ho2.below hb3
  have B3 : Below w.heap.size w W3 := B2.trans (hb3.mono (by omega))
  have hlt3 := b03.lt
  obtain ⟨x0, x1, x2, x3, f0, f1, f2, f3⟩ := b03.four
  clear b02 b0C ho2 hb2 hbC hb3
  cases ok with
  | false =>
    have HXN : Hid (X = none) := by rw [Hid, HX.out]; simp
    obtain ⟨WF, hWF, bF, hwF, hsF⟩ := box4_fill b03 (.bool false) (.int .i64 0) (.slice none 0 0) (.slice none 0 0)
    have HB : Hid (Below w.heap.size w WF) := B3.trans (hwF.below (Nat.le_refl _) (by omega))
    have W3e := hW3.out
    rw [← W3e] at x0 x1 x2 x3 f0 f1 f2 f3 hWF
    clear hwF hW3 b03 W3e b3
    go_wp2
    rw [hWF.out]
    obtain ⟨q0, q1, q2, q3, _⟩ := bF.four
    exact bodyPost_ret (v := .tuple #[.agg #[.bool false, .int .i64 0, .slice none 0 0, .slice none 0 0], .int .i64 0, .bool false]) (by simp [results, Tryd.results88, go_sem, q0, q1, q2, q3]) rfl ⟨slotAns_none HXN.out, HB.out⟩
  | true =>
    have HXS : Hid (X = some (⟨true, o⟩, q + m)) := by rw [Hid, HX.out]; simp
    obtain ⟨WF, hWF, bF, hwF, hsF⟩ := box4_fill b03 (.bool true) (.int .i64 o.kind) (.slice aI o.ints.length cI) (.slice aR o.refs.length cR)
    have HB : Hid (Below w.heap.size w WF) := B3.trans (hwF.below (Nat.le_refl _) (by omega))
    have HOF : Hid (OwnO WF w.heap.size WF.heap.size aI cI aR cR o) := (ho3.within hwF (.inr (by omega))).widen (by omega) (by omega) (Nat.le_refl _)
    obtain ⟨z0, z1, z2, _, _, _⟩ := b3.three
    have W3e := hW3.out
    rw [← W3e] at x0 x1 x2 x3 f0 f1 f2 f3 hWF z0 z1 z2
    clear hwF hW3 b03 W3e b3 ho3
    go_wp2
    rw [hWF.out]
    obtain ⟨q0, q1, q2, q3, _⟩ := bF.four
    exact bodyPost_ret (v := .tuple #[.agg #[.bool true, .int .i64 o.kind, .slice aI o.ints.length cI, .slice aR o.refs.length cR], .int .i64 ((q + m : Nat) : Int), .bool true]) (by simp [results, Tryd.results88, go_sem, q0, q1, q2, q3]) rfl ⟨slotAns_some HXS.out ⟨⟨true, o⟩, aI, cI, aR, cR⟩ rfl HOF.out, HB.out⟩
end Go.Proofs.YtbaocehcnjdkkaaDoor

/- The walk of impl.readPage. -/
namespace Go.Proofs.YtbaocehcnjdkkaaDoor
open Go.RowKit

/-- What is still to be read, behind what was. -/
def onToS (L : List SlotV) : Option (List SlotV × Nat) → Option (List SlotV × Nat)
  | none => none
  | some (l, r) => some (L ++ l, r)
theorem onToS_nil (x : Option (List SlotV × Nat)) : onToS [] x = x := by cases x <;> rfl
theorem onToS_step (zs : List Int) (L : List SlotV) (n p q : Nat) (z : SlotV) (h : slotAt zs p = some (z, q)) : onToS L (slotsAt zs (n + 1) p) = onToS (L ++ [z]) (slotsAt zs n q) := by
  rw [slotsAt, h]
  simp only
  cases slotsAt zs n q with
  | none => rfl
  | some t => simp [onToS]
theorem onToS_stop (zs : List Int) (L : List SlotV) (n p : Nat) (h : slotAt zs p = none) : onToS L (slotsAt zs (n + 1) p) = none := by rw [slotsAt, h]; rfl
theorem readP_no0 {zs : List Int} (h : getAt zs 0 = none) : readP zs = none := by unfold readP; rw [h]
theorem readP_no {zs : List Int} {n : Int} {p : Nat} (h : getAt zs 0 = some (n, p)) (hs : slotsAt zs 4 p = none) : readP zs = none := by unfold readP; rw [h]; simp only; rw [hs]
theorem readP_at {zs : List Int} {n : Int} {p q : Nat} {l : List SlotV} (h : getAt zs 0 = some (n, p)) (hs : slotsAt zs 4 p = some (l, q)) : readP zs = if q = zs.length then some (n, l) else none := by unfold readP; rw [h]; simp only; rw [hs]

/-- What readPage answers. -/
def PageAns (w' : World) (lo : Nat) (x : Option (Int × List SlotV)) (e : Ending) : Prop := match x with
  | some (n, l) => ∃ ts : List SlotA, e = .returned (.tuple #[.agg (PageA.cells ⟨n, ts⟩).toArray, .bool true]) ∧ ts.map (·.v) = l ∧ ts.length = 4 ∧ (∀ s ∈ ts, s.v.o.ints.length ≤ 5 ∧ s.v.o.refs.length ≤ 5) ∧ OwnS w' lo w'.heap.size ts
  | none => ∃ q : PageA, q.ss.length = 4 ∧ e = .returned (.tuple #[.agg q.cells.toArray, .bool false])
theorem pageAns_none {w' : World} {lo : Nat} {x : Option (Int × List SlotV)} (h : x = none) (q : PageA) (hq : q.ss.length = 4) : PageAns w' lo x (.returned (.tuple #[.agg q.cells.toArray, .bool false])) := by subst h; exact ⟨q, hq, rfl⟩
theorem pageAns_some {w' : World} {lo : Nat} {x : Option (Int × List SlotV)} {n : Int} {l : List SlotV} (h : x = some (n, l)) (ts : List SlotA) (hv : ts.map (·.v) = l) (h4 : ts.length = 4) (hf : ∀ s ∈ ts, s.v.o.ints.length ≤ 5 ∧ s.v.o.refs.length ≤ 5) (ho : OwnS w' lo w'.heap.size ts) : PageAns w' lo x (.returned (.tuple #[.agg (PageA.cells ⟨n, ts⟩).toArray, .bool true])) := by subst h; exact ⟨ts, rfl, hv, h4, hf, ho⟩
theorem slotAt_small (zs : List Int) (p : Nat) (s : SlotV) (q : Nat) (h : slotAt zs p = some (s, q)) : s.o.ints.length ≤ 5 ∧ s.o.refs.length ≤ 5 := by
  unfold slotAt at h
  split at h
  · cases h
  · split at h
    · cases h
    · split at h
      · simp only [Option.some.injEq, Prod.mk.injEq] at h
        rw [← h.1]; simp [noS, noO]
      · split at h
        · simp only [Option.some.injEq, Prod.mk.injEq] at h
          rw [← h.1]; exact getPair_small _
        · cases h

set_option maxHeartbeats 4000000 in
set_option maxRecDepth 100000 in
theorem readPage_any (a : Option Addr) (c : Nat) (zs : List Int) (w : World) (hg : ErrT w) (hr : Reads w a zs) (hl : zs.length ≤ 1099511627776) (hcap : zs.length ≤ c) :
    Calls Tryd.prog 49 #[.slice a zs.length c] w fun e w' => PageAns w' w.heap.size (readP zs) e ∧ Below w.heap.size w w' := by
  obtain ⟨W, hW, b0, hbW, hsW⟩ := boxes1 w [.int .i64 0, .bool false, .int .i64 0, .slice none 0 0, .slice none 0 0, .bool false, .int .i64 0, .slice none 0 0, .slice none 0 0, .bool false, .int .i64 0, .slice none 0 0, .slice none 0 0, .bool false, .int .i64 0, .slice none 0 0, .slice none 0 0] 31
  have HI0 : Hid ((Tryd.prog.info? 31).map (·.size) = some (PageA.cells ⟨0, zero4⟩).length) := by rw [Hid]; kernel_rfl
  have HO0 : Hid (_) := all_oneCell_toArray (oneP ⟨0, zero4⟩)
  have C0 := implGetInt_any a c zs 0 W (hr.below hbW) (by omega) hcap
  cases hg0 : getAt zs 0 with
  | none =>
    have HX : Hid (readP zs = none) := readP_no0 hg0
    have hg0' : getAt zs ((0 : Nat) : Int) = none := hg0
    rw [hg0] at C0
    simp only [triple] at C0
    generalize readP zs = X at *
    obtain ⟨WF, hWF, hwF, hsF, HTF, HLF, _⟩ := page_out (C := w.heap.size) (T := 31) ⟨0, zero4⟩ rfl _ rfl b0 Tryd.underlying31 rfl (by kernel_rfl)
    have HB : Hid (Below w.heap.size w WF) := hbW.trans (hwF.below (Nat.le_refl _) (by omega))
    clear hwF hg0 hg0'
    go_enter Tryd.func49, Tryd.ntmps49
    go_wp2_with fail
    rw [hW.out]
    refine C0.mono ?_
    clear C0
    rintro e w1 ⟨rfl, rfl⟩
    go_wp2_with (first | (guard_target = wpList _ _ _ (Oper.mk none (Op.store _ (Operand.tmp 2) _) _ _ _ _ :: _) _ _; refine wpList_store_mid rfl 31 (.tmp 2) (.tmp 17) rfl w.heap.size 0 (PageA.cells ⟨0, zero4⟩).toArray rfl rfl HTF.out (by rw [List.size_toArray]; exact HI0.out) HO0.out ?_) | fail)
    rw [hWF.out]
    exact bodyPost_ret (v := .tuple #[.agg (PageA.cells ⟨0, zero4⟩).toArray, .bool false]) (results_cell_flag Tryd.results49 rfl HLF.out rfl) rfl ⟨pageAns_none HX.out _ rfl, HB.out⟩
  | some r0 =>
    obtain ⟨n, p0⟩ := r0
    obtain ⟨XX, hXX⟩ : ∃ XX, slotsAt zs 4 p0 = XX := ⟨_, rfl⟩
    have HX0 : Hid (onToS [] (slotsAt zs (4 - 0) p0) = XX) := by rw [Hid, onToS_nil]; exact hXX
    have HXN : Hid (XX = none → readP zs = none) := fun h => readP_no hg0 (hXX.trans h)
    have HXS : Hid (∀ l q, XX = some (l, q) → readP zs = if q = zs.length then some (n, l) else none) := fun l q h => readP_at hg0 (hXX.trans h)
    rw [hg0] at C0
    simp only [triple] at C0
    generalize readP zs = X at *
    clear hg0 hXX
    obtain ⟨W2, hW2, b2, hb2, hs2⟩ := boxes1 W [.int .i64 n, .bool false, .int .i64 0, .slice none 0 0, .slice none 0 0, .bool false, .int .i64 0, .slice none 0 0, .slice none 0 0, .bool false, .int .i64 0, .slice none 0 0, .slice none 0 0, .bool false, .int .i64 0, .slice none 0 0, .slice none 0 0] 31
    have b2' : Box W2 W.heap.size (.int .i64 n :: cellsS ([] ++ List.replicate (4 - 0) zeroS)) 31 := b2
    have b02 := b0.below hb2 b0.lt
    have B2 : Below w.heap.size w W2 := hbW.trans (hb2.mono (by omega))
    have HWs : Hid (W.heap.size = w.heap.size + 1) := hsW
    clear b2 hsW b0 hs2
    go_enter Tryd.func49, Tryd.ntmps49
    go_wp2_with fail
    rw [hW.out]
    refine C0.mono ?_
    clear C0
    rintro e w1 ⟨rfl, rfl⟩
    go_wp2_with fail
    rw [hW2.out]
    have hWs : w.heap.size < w1.heap.size := by have := HWs.out; omega
    have hs2 := hb2.size
    have hW2s : w1.heap.size < W2.heap.size := b2'.lt
    clear hW hW2
    go_loopw [5, 6, 20] (fun at_ ok i wr => ∃ (k r : Nat) (ts : List SlotA), i = .int .i64 k ∧ at_ = .int .i64 r ∧ ok = .bool true ∧ k ≤ 4 ∧ Hid (ts.length = k ∧ onToS (ts.map (·.v)) (slotsAt zs (4 - k) r) = XX ∧ ∀ s ∈ ts, s.v.o.ints.length ≤ 5 ∧ s.v.o.refs.length ≤ 5) ∧ OwnS wr W2.heap.size wr.heap.size ts ∧ Box wr w1.heap.size (.int .i64 n :: cellsS (ts ++ List.replicate (4 - k) zeroS)) 31 ∧ Below w1.heap.size W2 wr)
      (fun _ _ i _ => 4 - (intOf i).toNat)
    case atStart => exact ⟨0, p0, [], rfl, rfl, rfl, by omega, ⟨rfl, HX0.out, fun s hs => by simp at hs⟩, OwnS.nil _ _ _, b2', Below.refl _ _⟩
    case round =>
      obtain ⟨k, r, ts, rfl, rfl, rfl, hk, hts, hown, hbox, hbl⟩ := hrel
      clear b2'
      have hsr := hbl.size
      have hsz := hbox.lt
      have Br : Below w.heap.size w wr := B2.trans (hbl.mono (by omega))
      have b0r := b02.below hbl (by omega)
      by_cases hlt : k < 4
      · have C := readSlot_any a c zs r wr (hg.keep Br) (hr.below Br) hl hcap
        cases hsa : slotAt zs r with
        | none =>
          have HXX : Hid (XX = none) := by
            rw [Hid, ← hts.out.2.1, show 4 - k = (4 - (k + 1)) + 1 by omega, onToS_stop _ _ _ _ hsa]
          have HXF : Hid (X = none) := HXN.out HXX.out
          rw [hsa] at C
          clear hsa
          simp only [SlotAns] at C
          have hkt : k < (ts ++ List.replicate (4 - k) zeroS).length := by have := hts.out.1; simp; omega
          have hi0 : (0 : Int) ≤ (k : Int) := by omega
          have hi4 : (k : Int) < 4 := by omega
          go_wp2_with fail
          refine C.mono ?_
          clear C
          rintro e w3 ⟨rfl, hb3⟩
          have hs3 := hb3.size
          have hbx := hbox.below hb3 hsz
          obtain ⟨W4, hW4, b4, hw4, hs4⟩ := pslot_fill hbx k hkt zeroS
          obtain ⟨x0, x1, x2, x3, hfz⟩ := hbx.pslot k hkt
          have f0 := hfz (1 + k * 4)
          have f1 := hfz (1 + k * 4 + 1)
          have f2 := hfz (1 + k * 4 + 2)
          have f3 := hfz (1 + k * 4 + 3)
          generalize (ts ++ List.replicate (4 - k) zeroS).getD k zeroS = old at *
          have b04 := (b0r.below hb3 b0r.lt).within hw4 (by omega)
          obtain ⟨WF, hWF, hwF, hsF, HTF, HLF, _⟩ := page_out (C := w.heap.size) (T := 31) ⟨0, zero4⟩ rfl _ rfl b04 Tryd.underlying31 rfl (by kernel_rfl)
          have HB : Hid (Below w.heap.size w WF) := ((Br.trans (hb3.mono Br.size)).trans (hw4.below (by omega) (by omega))).trans (hwF.below (Nat.le_refl _) (by omega))
          simp only [zeroS, List.length_nil] at hW4
          have W4e := hW4.out
          rw [← W4e] at HTF hWF
          clear hwF hw4 hfz hbx hbox hown hts b4 b04 b0r W4e hW4
          simp only [zeroS, SlotA.cells, List.length_nil]
          go_wp2_with (first | (guard_target = wpList _ _ _ (Oper.mk none (Op.store _ (Operand.tmp 2) _) _ _ _ _ :: _) _ _; refine wpList_store_mid rfl 31 (.tmp 2) (.tmp 35) rfl w.heap.size 0 (PageA.cells ⟨0, zero4⟩).toArray rfl rfl HTF.out (by rw [List.size_toArray]; exact HI0.out) HO0.out ?_) | fail)
          rw [hWF.out]
          exact bodyPost_ret (v := .tuple #[.agg (PageA.cells ⟨0, zero4⟩).toArray, .bool false]) (results_cell_flag Tryd.results49 rfl HLF.out rfl) rfl ⟨pageAns_none HXF.out _ rfl, HB.out⟩
        | some sr =>
          obtain ⟨sv, r2⟩ := sr
          have HST : Hid (onToS (ts.map (·.v) ++ [sv]) (slotsAt zs (4 - (k + 1)) r2) = XX) := by
            rw [Hid, ← hts.out.2.1, show 4 - k = (4 - (k + 1)) + 1 by omega, onToS_step _ _ _ _ _ _ hsa]
          have HSM : Hid (_) := slotAt_small zs r sv r2 hsa
          rw [hsa] at C
          clear hsa
          simp only [SlotAns] at C
          have hkt : k < (ts ++ List.replicate (4 - k) zeroS).length := by have := hts.out.1; simp; omega
          have hi0 : (0 : Int) ≤ (k : Int) := by omega
          have hi4 : (k : Int) < 4 := by omega
          go_wp2_with fail
          refine C.mono ?_
          clear C
          rintro e w3 ⟨⟨t, rfl, hv, ho⟩, hb3⟩
          have hs3 := hb3.size
          have hbx := hbox.below hb3 hsz
          obtain ⟨W4, hW4, b4, hw4, hs4⟩ := pslot_fill hbx k hkt t
          obtain ⟨x0, x1, x2, x3, hfz⟩ := hbx.pslot k hkt
          have f0 := hfz (1 + k * 4)
          have f1 := hfz (1 + k * 4 + 1)
          have f2 := hfz (1 + k * 4 + 2)
          have f3 := hfz (1 + k * 4 + 3)
          generalize (ts ++ List.replicate (4 - k) zeroS).getD k zeroS = old at *
          have b4' : Box W4 w1.heap.size (.int .i64 n :: cellsS ((ts ++ [t]) ++ List.replicate (4 - (k + 1)) zeroS)) 31 := by
            rw [show 4 - k = (4 - (k + 1)) + 1 by omega] at b4
            have e := set_snoc ts (4 - (k + 1)) t
            rw [hts.out.1] at e
            rw [e] at b4
            exact b4
          have hO3 : OwnS w3 W2.heap.size w3.heap.size (ts ++ [t]) := (hown.below hb3).snoc ho hsr hs3 (Nat.le_refl _)
          have hO4 : OwnS W4 W2.heap.size W4.heap.size (ts ++ [t]) := (hO3.within hw4 (.inr (by omega))).widen (Nat.le_refl _) (by omega) (Nat.le_refl _)
          have N4 : Below w1.heap.size W2 W4 := (hbl.trans (hb3.mono (by omega))).trans (hw4.below (Nat.le_refl _) (by omega))
          have HT : Hid ((ts ++ [t]).length = k + 1 ∧ onToS ((ts ++ [t]).map (·.v)) (slotsAt zs (4 - (k + 1)) r2) = XX ∧ ∀ s ∈ ts ++ [t], s.v.o.ints.length ≤ 5 ∧ s.v.o.refs.length ≤ 5) := by
            refine ⟨by have := hts.out.1; simp; omega, ?_, fun s hs => ?_⟩
            · rw [List.map_append, List.map_singleton, hv]; exact HST.out
            · rcases List.mem_append.1 hs with h | h
              · exact hts.out.2.2 s h
              · obtain rfl := List.mem_singleton.1 h
                rw [hv]; exact HSM.out
          clear hfz hs4 hw4 b4 hO3 hown hbox hbx hts HST hkt ho hv HSM
          simp only [SlotA.cells]
          go_wp2_with fail
          rw [hW4.out]
          go_roundw
          case rel => exact ⟨k + 1, r2, ts ++ [t], by go_num, rfl, rfl, by omega, HT, hO4, b4', N4⟩
          case measure => simp [intOf]; omega
      · obtain rfl : k = 4 := by omega
        have hkk : ¬ ((4 : Nat) : Int) < 4 := by omega
        have hrp : ts ++ List.replicate (4 - 4) zeroS = ts := by simp
        rw [hrp] at hbox
        have htl : ts.length = 4 := hts.out.1
        have HXX : Hid (XX = some (ts.map (·.v), r)) := by rw [Hid, ← hts.out.2.1]; simp [slotsAt, onToS]
        have HXF : Hid (X = if r = zs.length then some (n, ts.map (·.v)) else none) := HXS.out _ _ HXX.out
        have HFT : Hid (_) := hts.out.2.2
        generalize hq : (⟨n, ts⟩ : PageA) = P at *
        have hP4 : P.ss.length = 4 := by rw [← hq]; exact htl
        have HPe : Hid (P = ⟨n, ts⟩) := hq.symm
        have hbox' : Box wr w1.heap.size P.cells 31 := by rw [← hq]; exact hbox
        have rP := Box.range [] P.cells [] (by simpa using hbox' : Box wr w1.heap.size ([] ++ (P.cells ++ [])) 31)
        have HIP : Hid ((Tryd.prog.info? 31).map (·.size) = some P.cells.length) := by rw [Hid, page_len P hP4]; kernel_rfl
        have HOP : Hid (_) := all_oneCell_toArray (oneP P)
        obtain ⟨WF, hWF, hwF, hsF, HTF, HLF, _⟩ := page_out (C := w.heap.size) (T := 31) P hP4 _ rfl b0r Tryd.underlying31 rfl (by kernel_rfl)
        have HOF : Hid (OwnS WF w.heap.size WF.heap.size ts) := (hown.within hwF (.inr (by omega))).widen (by omega) (by omega) (Nat.le_refl _)
        have HB : Hid (Below w.heap.size w WF) := Br.trans (hwF.below (Nat.le_refl _) (by omega))
        have HEND : Hid (PageAns WF w.heap.size X (.returned (.tuple #[.agg P.cells.toArray, .bool ((r : Int) == (zs.length : Int))]))) := by
          by_cases hrz : r = zs.length
          · have e1 : ((r : Int) == (zs.length : Int)) = true := by simp [hrz]
            rw [e1, HPe.out]
            exact pageAns_some (by rw [HXF.out, if_pos hrz]) ts rfl htl HFT.out HOF.out
          · have e1 : ((r : Int) == (zs.length : Int)) = false := by simp; omega
            rw [e1]
            exact pageAns_none (by rw [HXF.out, if_neg hrz]) P hP4
        clear hwF hsF HOF hq hbox hown hbox' b0r HXX HXF hts hrp htl
        go_wp2_with (first | (guard_target = wpList _ _ _ (Oper.mk (some 37) _ _ _ _ _ :: _) _ _; refine wpList_load_mid rfl 31 (.tmp 7) rfl w1.heap.size 0 rfl P.cells _ rP Tryd.underlying31 rfl HIP.out ?_) | (guard_target = wpList _ _ _ (Oper.mk none (Op.store _ (Operand.tmp 2) _) _ _ _ _ :: _) _ _; refine wpList_store_mid rfl 31 (.tmp 2) (.tmp 37) rfl w.heap.size 0 P.cells.toArray rfl rfl HTF.out (by rw [List.size_toArray]; exact HIP.out) HOP.out ?_) | fail)
        rw [hWF.out]
        exact bodyPost_ret (v := .tuple #[.agg P.cells.toArray, .bool ((r : Int) == (zs.length : Int))]) (results_cell_flag Tryd.results49 rfl HLF.out rfl) rfl ⟨HEND.out, HB.out⟩
end Go.Proofs.YtbaocehcnjdkkaaDoor

/- The walks of impl.slotHas, impl.slotOk and impl.markSlots over either; a slot of a row taken out by its number. -/
namespace Go.Proofs.YtbaocehcnjdkkaaDoor
open Go.RowKit

theorem slotB_same {s : SlotV} (h : s.has = false) : slotB s = sameO s.o noO := by
  obtain ⟨b, k, i, r⟩ := s
  simp only at h
  subst h
  show slotB ⟨false, k, i, r⟩ = (decide (k = (0 : Int)) && (decide (i = ([] : List Int)) && decide (r = ([] : List Int))))
  rw [Bool.eq_iff_iff]
  simp [slotB]

set_option maxHeartbeats 400000 in
set_option maxRecDepth 100000 in
theorem slotHas_any (s : SlotA) (w : World) :
    Calls Tryd.prog 53 #[.agg s.cells.toArray] w fun e w' => e = .returned (.bool s.v.has) ∧ Below w.heap.size w w' := by
  obtain ⟨W, hW, b0, hbW, hsW⟩ := boxes1 w s.cells 28
  simp only [SlotA.cells] at *
  go_enter Tryd.func53, Tryd.ntmps53
  go_wp2
  go_ret
  exact ⟨rfl, by rw [hW.out]; exact hbW⟩

set_option maxHeartbeats 400000 in
set_option maxRecDepth 100000 in
theorem slotOk_any (s : SlotA) (w : World) (hg : ErrT w) (hr : s.reads w) (hl : Fit [s]) :
    Calls Tryd.prog 45 #[.agg s.cells.toArray] w fun e w' => e = .returned (.bool (slotB s.v)) ∧ Below w.heap.size w w' := by
  obtain ⟨h1, h2⟩ := hl s (List.mem_singleton.2 rfl)
  obtain ⟨W, hW, b0, hbW, hsW⟩ := boxes1 w s.cells 28
  have hr' : s.reads W := ReadsO.below hr hbW
  have hg' := hg.keep hbW
  have HT : Hid (s.v.has = true → slotB s.v = okB s.v.o) := fun h => slotB_has h
  have HF : Hid (s.v.has = false → slotB s.v = sameO s.v.o noO) := fun h => slotB_same h
  have hno : ReadsO W none 0 none 0 noO := ⟨fun h => absurd rfl h, fun h => absurd rfl h, fun _ => rfl, fun _ => rfl⟩
  have C1 := implObjOk_any s.v.o s.aI s.cI s.aR s.cR W hg' hr' (by omega) (by omega)
  have C2 := implSameObj_any s.v.o noO s.aI s.cI s.aR s.cR none 0 none 0 W hr' hno (by omega) (by omega) (by simp [noO]) (by simp [noO])
  simp only [noO] at C2
  generalize slotB s.v = R at *
  simp only [SlotA.cells] at *
  cases hh : s.v.has with
  | true =>
    have HE : Hid (_ = _) := HT.out hh
    rw [hh] at hW
    clear hh C2 HT HF
    go_enter Tryd.func45, Tryd.ntmps45
    go_wp2_with fail
    rw [hW.out]
    refine C1.mono ?_
    rintro e w1 ⟨rfl, hb1⟩
    go_wp2
    go_ret
    exact ⟨ret_bool HE.out.symm, hbW.trans (hb1.mono hbW.size)⟩
  | false =>
    have HE : Hid (_ = _) := HF.out hh
    rw [hh] at hW
    clear hh C1 HT HF
    go_enter Tryd.func45, Tryd.ntmps45
    go_wp2_with fail
    rw [hW.out]
    refine C2.mono ?_
    rintro e w1 ⟨rfl, hb1⟩
    go_wp2
    go_ret
    exact ⟨ret_bool HE.out.symm, hbW.trans (hb1.mono hbW.size)⟩

theorem cells_take (ss : List SlotA) (k : Nat) (hk : k < ss.length) : ((cellsS ss).drop (k * 4)).take 4 = (ss.getD k zeroS).cells := by
  apply List.ext_getElem?
  intro j
  rw [List.getElem?_take]
  by_cases hj : j < 4
  · rw [if_pos (by omega), List.getElem?_drop]
    exact cellsS_at ss k j hk hj
  · rw [if_neg (by omega), List.getElem?_eq_none (by rw [cells_len]; omega)]
theorem run_index_slot (ss : List SlotA) (h4 : ss.length = 4) (k : Nat) (hk : k < 4) (w : World) :
    (Instr.index 29 (.agg (cellsS ss).toArray) (.int .i64 (k : Int))).run Tryd.prog w = .ok (.agg (ss.getD k zeroS).cells.toArray) w := by
  have he := cells_take ss k (by omega)
  have hz : (sizeOf 28).run Tryd.prog w = .ok 4 w := by kernel_rfl
  simp [Instr.index, asIntOf, part, run_underlying Tryd.underlying29, hz]
  rw [if_pos hk, he]
  simp [List.getD]
end Go.Proofs.YtbaocehcnjdkkaaDoor
