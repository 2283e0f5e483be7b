/- Several texts in one, in their order. -/
import Derived.Test.YtickiokdcbeefabProg
import Derived.Test.YtickiokdcbeefabPUsedx1
import Derived.LaidEql
import Derived.Stop.Asserts
import Derived.RowKitTokens
import Derived.Test.YtickiokdcbeefabPUsedx6
import Derived.Test.YtickiokdcbeefabPUsedx10
import Derived.Test.YtickiokdcbeefabPUsedx12
import Derived.Deep.QuietTactic
import Derived.Deep.RegionHeld3
/- errors.As at a noObject: the walks of errors.As and of impl.isNoObject. -/
namespace Go.Proofs.Ytickiokdcbeefab
open Go.RowKit Go.Extern.Stop Go.Stop Go.Extern

theorem rlm (z : Sem Value) (f : TypeId → Addr → Nat → Nat → Sem Value) (v : Value) :
    ReflectliteValue.method z f #[v] = (do match ← ReflectliteValue.parts v with | none => z | some (t, a, fl) => f t a fl (fl % 32)) := rfl
theorem rls (v x : Value) : ReflectliteValue.set #[v, x] = (do
    let (some (dst, a, fl), some (src, b, _)) := (← ReflectliteValue.parts v, ← ReflectliteValue.parts x)
      | unsupported (.noEntry "extern/(internal/reflectlite.Value).Set.zeroValue")
    if fl / ReflectliteValue.flagAddr % 2 == 0 then unsupported (.noEntry "extern/(internal/reflectlite.Value).Set.unaddressable")
    let val ← loadVar src b
    if ← Rtype.directlyAssignable dst src then storeVar dst a val
    else if ← Rtype.implements dst src then
      if (← Rtype.kind src) == 20 then
        match val with
        | .nilIface => unsupported (.noEntry "extern/reflectlite: a nil value of one interface type handed on as a value of another")
        | _ => storeVar dst a val
      else storeVar dst a (.iface src val)
    else panicString ("reflectlite.Set: value of type " ++ (← Rtype.spelt src) ++ " is not assignable to type " ++ (← Rtype.spelt dst))
    pure (.tuple #[])) := rfl
end Go.Proofs.Ytickiokdcbeefab

/- When an object is right; the walks of impl.partsOk, impl.checkObj and impl.ObjOk. -/
namespace Go.Proofs.Ytickiokdcbeefab
open Go.RowKit

def partsB (l : List Int) (least most : Int) : Bool := decide (l.length ≤ 5) && l.all (fun z => inB z least most)
theorem partsB_at {l : List Int} {least most : Int} (j : Nat) (hj : j < l.length) (h : inB (l.getD j 0) least most = false) : partsB l least most = false := by
  have : (l.all (fun z => inB z least most)) = false := by
    rw [List.all_eq_false]
    exact ⟨l.getD j 0, by simp [List.getD, hj], by rw [h]; decide⟩
  simp [partsB, this]
theorem partsB_all {l : List Int} {least most : Int} (h : ∀ j, j < l.length → inB (l.getD j 0) least most = true) : partsB l least most = decide (l.length ≤ 5) := by
  have : (l.all (fun z => inB z least most)) = true := by
    rw [List.all_eq_true]
    intro z hz
    obtain ⟨j, hj, rfl⟩ := List.getElem_of_mem hz
    have := h j hj
    simpa [List.getD, hj] using this
  simp [partsB, this]
theorem okB_parts (o : ObjV) : okB o = (inB o.kind 1 99 && (partsB o.ints (-1000000) 1000000 && partsB o.refs 0 31)) := by
  unfold okB partsB
  cases inB o.kind 1 99 <;> cases decide (o.ints.length ≤ 5) <;> cases decide (o.refs.length ≤ 5) <;> cases o.ints.all (fun z => inB z (-1000000) 1000000) <;> simp

theorem inB_false {x l m : Int} (h : inB x l m = false) : x < l ∨ (¬ x < l ∧ m < x) := by simp [inB] at h; omega
theorem inB_true {x l m : Int} (h : inB x l m = true) : ¬ x < l ∧ ¬ m < x := by simp [inB] at h; omega

end Go.Proofs.Ytickiokdcbeefab

/- The walks of impl.slotHas, impl.slotOk and impl.markSlots over either; a slot of a row taken out by its number. -/
namespace Go.Proofs.Ytickiokdcbeefab
open Go.RowKit

theorem slotB_same {s : SlotV} (h : s.has = false) : slotB s = sameO s.o noO := by
  obtain ⟨b, k, i, r⟩ := s
  simp only at h
  subst h
  show slotB ⟨false, k, i, r⟩ = (decide (k = (0 : Int)) && (decide (i = ([] : List Int)) && decide (r = ([] : List Int))))
  rw [Bool.eq_iff_iff]
  simp [slotB]

theorem cells_take (ss : List SlotA) (k : Nat) (hk : k < ss.length) : ((cellsS ss).drop (k * 4)).take 4 = (ss.getD k zeroS).cells := by
  apply List.ext_getElem?
  intro j
  rw [List.getElem?_take]
  by_cases hj : j < 4
  · rw [if_pos (by omega), List.getElem?_drop]
    exact cellsS_at ss k j hk hj
  · rw [if_neg (by omega), List.getElem?_eq_none (by rw [cells_len]; omega)]
theorem run_index_slot (ss : List SlotA) (h4 : ss.length = 4) (k : Nat) (hk : k < 4) (w : World) :
    (Instr.index 40 (.agg (cellsS ss).toArray) (.int .i64 (k : Int))).run Try.prog w = .ok (.agg (ss.getD k zeroS).cells.toArray) w := by
  have he := cells_take ss k (by omega)
  have hz : (sizeOf 39).run Try.prog w = .ok 4 w := by kernel_rfl
  simp [Instr.index, asIntOf, Go.part, run_underlying Try.underlying40, hz]
  rw [if_pos hk, he]
  simp [List.getD]
end Go.Proofs.Ytickiokdcbeefab

/- What a record tells, as the landed code holds it: an interface with a type for each kind. -/
namespace Go.Proofs.Ytickiokdcbeefab
open Go.RowKit

/-- A transaction, and its record ahead. -/
def linkD (tx prev : Int) : List Value := [.int .i64 tx, .int .i64 prev]
def setD (tx prev oid : Int) (b a : SlotA) : List Value := [.int .i64 tx, .int .i64 prev, .int .i64 oid, .bool b.v.has, .int .i64 b.v.o.kind, .slice b.aI b.v.o.ints.length b.cI, .slice b.aR b.v.o.refs.length b.cR, .bool a.v.has, .int .i64 a.v.o.kind, .slice a.aI a.v.o.ints.length a.cI, .slice a.aR a.v.o.refs.length a.cR]
def backD (tx prev oid : Int) (a : SlotA) (next : Int) : List Value := [.int .i64 tx, .int .i64 prev, .int .i64 oid, .bool a.v.has, .int .i64 a.v.o.kind, .slice a.aI a.v.o.ints.length a.cI, .slice a.aR a.v.o.refs.length a.cR, .int .i64 next]
def checkD (ls : List LiveV) (aL : Option Addr) (cL : Nat) : List Value := [.slice aL ls.length cL]

end Go.Proofs.Ytickiokdcbeefab

/- The walks of impl.txOk, oidOk, isAhead, linkOk, livesOk, deedOk. -/
namespace Go.Proofs.Ytickiokdcbeefab
open Go.RowKit

def linkB (n tx prev : Int) : Bool := inB tx 1 1000 && inB prev 0 (n - 1)
/-- The Tx ahead of the one at k. -/
def aheadTx (ls : List LiveV) : Nat → Int
  | 0 => 0
  | k + 1 => (ls.getD k zeroL).tx
theorem liveOk_eq (n : Int) (ls : List LiveV) (k : Nat) : liveOk n ls k = (decide (aheadTx ls k < (ls.getD k zeroL).tx) && (inB (ls.getD k zeroL).tx 1 1000 && (!((ls.getD k zeroL).last == 0) && inB (ls.getD k zeroL).last 0 (n - 1)))) := by
  rw [Bool.eq_iff_iff]
  cases k with
  | zero => simp [liveOk, aheadTx, inB]; omega
  | succ k => simp [liveOk, aheadTx, inB]; omega

end Go.Proofs.Ytickiokdcbeefab

/- The walks of the kinds, impl.recAt and impl.recOf. -/
namespace Go.Proofs.Ytickiokdcbeefab
open Go.RowKit

/-- A record of these, and nothing else. -/
def recA (n tx prev kind : Int) : RecA := ⟨n, tx, prev, kind, 0, zeroS, zeroS, 0, [], none, 0⟩
end Go.Proofs.Ytickiokdcbeefab
