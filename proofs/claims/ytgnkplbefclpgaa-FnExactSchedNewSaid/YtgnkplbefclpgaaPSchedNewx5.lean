/- Several texts in one, in their order. -/
import Derived.Test.YtgnkplbefclpgaaPSchedNewx4
import Derived.Test.YtgnkplbefclpgaaProg
import Derived.Test.YtgnkplbefclpgaaPSchedNewx1
import Derived.WalkKit
import Derived.Test.YtgnkplbefclpgaaPSchedNewx2
set_option maxHeartbeats 8000000
set_option maxRecDepth 100000
namespace Go.Proofs.Ytgnkplbefclpgaa
open Go.RowKit
def Bytes (zs : List Int) : Prop := ∀ z ∈ zs, 0 ≤ z ∧ z < 256
theorem Bytes.drop {zs : List Int} (h : Bytes zs) (p : Nat) : Bytes (zs.drop p) := fun z hz => h z (List.mem_of_mem_drop hz)
def sumByte (x k : Nat) : Int := ((x / 256 ^ k % 256 : Nat) : Int)
def fourTo (x k : Nat) : List Int := (List.range k).map (sumByte x)
def four (x : Nat) : List Int := fourTo x 4
def frameOf (zs : List Int) : List Int := (putOf zs.length ++ zs) ++ four (crcOf zs)
end Go.Proofs.Ytgnkplbefclpgaa
namespace Go.Proofs.Ytgnkplbefclpgaa
open Go.RowKit
def Fit (ss : List SlotA) : Prop := ∀ s ∈ ss, s.v.o.ints.length ≤ 1099511627776 ∧ s.v.o.refs.length ≤ 1099511627776
end Go.Proofs.Ytgnkplbefclpgaa