/- Several texts in one, in their order. -/
import Derived.Test.YtnnehpimkdoeoaaPChainx23
import Derived.Test.YtnnehpimkdoeoaaPChainx28
import Derived.Deep.QuietTactic
import Derived.Deep.RegionHeld3
/- What a record tells, as the landed code holds it: an interface with a type for each kind. -/
namespace Go.Proofs.Ytnnehpimkdoeoaa
open Go.RowKit

/-- A transaction, and its record ahead. -/
def linkD (tx prev : Int) : List Value := [.int .i64 tx, .int .i64 prev]
def setD (tx prev oid : Int) (b a : SlotA) : List Value := [.int .i64 tx, .int .i64 prev, .int .i64 oid, .bool b.v.has, .int .i64 b.v.o.kind, .slice b.aI b.v.o.ints.length b.cI, .slice b.aR b.v.o.refs.length b.cR, .bool a.v.has, .int .i64 a.v.o.kind, .slice a.aI a.v.o.ints.length a.cI, .slice a.aR a.v.o.refs.length a.cR]
def backD (tx prev oid : Int) (a : SlotA) (next : Int) : List Value := [.int .i64 tx, .int .i64 prev, .int .i64 oid, .bool a.v.has, .int .i64 a.v.o.kind, .slice a.aI a.v.o.ints.length a.cI, .slice a.aR a.v.o.refs.length a.cR, .int .i64 next]
def checkD (ls : List LiveV) (aL : Option Addr) (cL : Nat) : List Value := [.slice aL ls.length cL]

end Go.Proofs.Ytnnehpimkdoeoaa

/- The walks of impl.txOk, oidOk, isAhead, linkOk, livesOk, deedOk. -/
namespace Go.Proofs.Ytnnehpimkdoeoaa
open Go.RowKit

def linkB (n tx prev : Int) : Bool := inB tx 1 1000 && inB prev 0 (n - 1)
/-- The Tx ahead of the one at k. -/
def aheadTx (ls : List LiveV) : Nat → Int
  | 0 => 0
  | k + 1 => (ls.getD k zeroL).tx
theorem liveOk_eq (n : Int) (ls : List LiveV) (k : Nat) : liveOk n ls k = (decide (aheadTx ls k < (ls.getD k zeroL).tx) && (inB (ls.getD k zeroL).tx 1 1000 && (!((ls.getD k zeroL).last == 0) && inB (ls.getD k zeroL).last 0 (n - 1)))) := by
  rw [Bool.eq_iff_iff]
  cases k with
  | zero => simp [liveOk, aheadTx, inB]; omega
  | succ k => simp [liveOk, aheadTx, inB]; omega

end Go.Proofs.Ytnnehpimkdoeoaa

/- The walks of the kinds, impl.recAt and impl.recOf. -/
namespace Go.Proofs.Ytnnehpimkdoeoaa
open Go.RowKit

theorem rec_load {w : World} {B : Nat} (r : RecA) (b : Box w B r.cells 44) : (loadVar 44 ⟨B, 0, none⟩).run Try.prog w = .ok (.agg r.cells.toArray) w :=
  run_loadVar_mid (P := Try.prog) w B 0 44 r.cells _ (Box.range [] r.cells [] (by simpa using b)) Try.underlying44 rfl (by show _ = some 15; kernel_rfl)
/-- A record of these, and nothing else. -/
def recA (n tx prev kind : Int) : RecA := ⟨n, tx, prev, kind, 0, zeroS, zeroS, 0, [], none, 0⟩
end Go.Proofs.Ytnnehpimkdoeoaa
