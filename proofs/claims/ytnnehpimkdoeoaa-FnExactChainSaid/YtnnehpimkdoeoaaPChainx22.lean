/- Several texts in one, in their order. -/
import Derived.Test.YtnnehpimkdoeoaaPChainx20
import Derived.Test.YtnnehpimkdoeoaaPChainx13
import Derived.Test.YtnnehpimkdoeoaaPChainx21
import Derived.Deep.RegionHeld3
import Derived.Test.YtnnehpimkdoeoaaPChainx9
/- The walks of spec.l3PutSlot and spec.PutPage. -/
namespace Go.Proofs.Ytnnehpimkdoeoaa
open Go.RowKit

theorem flatS_step (ss : List SlotA) (k : Nat) (h : k < ss.length) : ((ss.take (k + 1)).map (·.v)).flatMap putSlotOf = ((ss.take k).map (·.v)).flatMap putSlotOf ++ putSlotOf (ss.getD k zeroS).v := by
  rw [List.take_add_one, List.map_append, List.flatMap_append]
  simp [List.getD, h]

end Go.Proofs.Ytnnehpimkdoeoaa

/- The walk of spec.PutRec. -/
namespace Go.Proofs.Ytnnehpimkdoeoaa
open Go.RowKit

def putLive (l : LiveV) : List Int := (putOf l.tx ++ putOf l.last) ++ putOf (if l.aborts then 1 else 0)
def headR (r : RecV) : List Int := [r.lsn, r.tx, r.prev, r.kind, r.oid, r.next]
def bodyR (r : RecV) : List Int := ((((headR r).flatMap putOf ++ putSlotOf r.bf) ++ putSlotOf r.af) ++ putOf r.txs.length) ++ r.txs.flatMap putLive
/-- The bytes of a record. -/
def putRecOf (r : RecV) : List Int := if okR r then bodyR r else []
theorem putRec_ok {r : RecV} (h : okR r = true) : putRecOf r = bodyR r := by unfold putRecOf; rw [if_pos h]
theorem putRec_no {r : RecV} (h : okR r = false) : putRecOf r = [] := by unfold putRecOf; rw [if_neg (by rw [h]; decide)]
theorem flatN_len (ns : List Int) : (ns.flatMap putOf).length ≤ ns.length * 65 := by
  induction ns with
  | nil => simp
  | cons n r ih => have := (putOf_len n).2; simp only [List.flatMap_cons, List.length_append, List.length_cons]; omega
theorem putLive_len (l : LiveV) : (putLive l).length ≤ 195 := by
  have h1 := (putOf_len l.tx).2
  have h2 := (putOf_len l.last).2
  have h3 := (putOf_len (if l.aborts then 1 else 0)).2
  simp only [putLive, List.length_append]
  omega
theorem flatL_len (ls : List LiveV) : (ls.flatMap putLive).length ≤ ls.length * 195 := by
  induction ls with
  | nil => simp
  | cons n r ih => have := putLive_len n; simp only [List.flatMap_cons, List.length_append, List.length_cons]; omega
theorem flatL_step (ls : List LiveV) (k : Nat) (h : k < ls.length) : (ls.take (k + 1)).flatMap putLive = (ls.take k).flatMap putLive ++ putLive (ls.getD k zeroL) := by
  rw [List.take_add_one, List.flatMap_append]
  simp [List.getD, h]
theorem flatI_step (ns : List Int) (k : Nat) (h : k < ns.length) : (ns.take (k + 1)).flatMap putOf = (ns.take k).flatMap putOf ++ putOf (ns.getD k 0) := by
  rw [List.take_add_one, List.flatMap_append]
  simp [List.getD, h]
theorem okR_txs {r : RecV} (h : okR r = true) : r.txs.length ≤ 20 := by
  unfold okR at h
  simp only [Bool.and_eq_true] at h
  have h4 := h.2.2.2
  by_cases h6 : r.kind == 6
  · rw [if_pos h6] at h4
    simp [livesB] at h4
    exact h4.2.2
  · rw [if_neg h6] at h4
    have h5 := (Bool.and_eq_true _ _ ▸ (Bool.and_eq_true _ _ ▸ h4).2).2
    have hz : ∀ a b c d, zeroB r a b c d false = true → r.txs.length ≤ 20 := by
      intro a b c d hz
      simp only [zeroB, Bool.and_eq_true, Bool.false_or, decide_eq_true_eq] at hz
      omega
    split at h5
    · exact hz _ _ _ _ (Bool.and_eq_true _ _ ▸ h5).1
    · split at h5
      · exact hz _ _ _ _ (Bool.and_eq_true _ _ ▸ h5).1
      · split at h5
        · exact hz _ _ _ _ h5
        · split at h5
          · exact hz _ _ _ _ h5
          · split at h5
            · exact hz _ _ _ _ h5
            · exact absurd h5 (by decide)

end Go.Proofs.Ytnnehpimkdoeoaa

/- The walk of laws.toPage. -/
namespace Go.Proofs.Ytnnehpimkdoeoaa
open Go.RowKit

end Go.Proofs.Ytnnehpimkdoeoaa
