/- Several texts in one, in their order. -/
import Derived.WalkKit
import Derived.Test.YtgbpnepipknjnaaDoorProg
import Derived.Test.YtgbpnepipknjnaaDoorPFnGarbagex1
import Derived.Test.YtgbpnepipknjnaaDoorPFnGarbagex5
import Derived.Deep.QuietTactic
import Derived.BigQuiet
/- Plain mathematics of reading a number: how many groups say that more come, what they hold. -/
namespace Go.Proofs.YtgbpnepipknjnaaDoor

end Go.Proofs.YtgbpnepipknjnaaDoor

/- Plain mathematics of the sum: one bit, eight bits, a list of bytes; what stays below 2 to the 32. -/
namespace Go.Proofs.YtgbpnepipknjnaaDoor

def crcBit (x : Nat) : Nat := if x % 2 = 1 then (x / 2) ^^^ 3988292384 else x / 2
def crcBits : Nat → Nat → Nat
  | 0, x => x
  | k + 1, x => crcBit (crcBits k x)
def crcByte (x : Nat) (c : Nat) : Nat := crcBits 8 (x ^^^ c)
def crcTo (zs : List Int) (k : Nat) : Nat := (zs.take k).foldl (fun x c => crcByte x c.toNat) 4294967295
def crcOf (zs : List Int) : Nat := 4294967295 ^^^ crcTo zs zs.length

end Go.Proofs.YtgbpnepipknjnaaDoor

/- The walks of spec.l1In and spec.GetInt. -/
namespace Go.Proofs.YtgbpnepipknjnaaDoor
open Go.RowKit


end Go.Proofs.YtgbpnepipknjnaaDoor

/- The walks of spec.l2Next and spec.l2List: a reader over bytes. -/
namespace Go.Proofs.YtgbpnepipknjnaaDoor
open Go.RowKit

end Go.Proofs.YtgbpnepipknjnaaDoor

/- Plain mathematics: a number comes back of its bytes; cut, it does not. -/
namespace Go.Proofs.YtgbpnepipknjnaaDoor

end Go.Proofs.YtgbpnepipknjnaaDoor

/- Plain mathematics: an object comes back of its bytes, and of them alone. -/
namespace Go.Proofs.YtgbpnepipknjnaaDoor
open Go.RowKit

theorem okB_bd {o : ObjV} (h : okB o = true) : (1 ≤ o.kind ∧ o.kind ≤ 99) ∧ o.ints.length ≤ 5 ∧ o.refs.length ≤ 5 ∧ (∀ z ∈ o.ints, -1000000 ≤ z ∧ z ≤ 1000000) ∧ (∀ z ∈ o.refs, 0 ≤ z ∧ z ≤ 31) := by
  simp [okB, inB] at h
  exact ⟨h.1, h.2.1, h.2.2.1, h.2.2.2.1, h.2.2.2.2⟩

def noO : ObjV := ⟨0, [], []⟩
end Go.Proofs.YtgbpnepipknjnaaDoor

/- Plain mathematics of reading an object number by number: what is read is just what is put. -/
namespace Go.Proofs.YtgbpnepipknjnaaDoor
open Go.RowKit

def Bytes (zs : List Int) : Prop := ∀ z ∈ zs, 0 ≤ z ∧ z < 256
theorem Bytes.drop {zs : List Int} (h : Bytes zs) (p : Nat) : Bytes (zs.drop p) := fun z hz => h z (List.mem_of_mem_drop hz)

end Go.Proofs.YtgbpnepipknjnaaDoor
