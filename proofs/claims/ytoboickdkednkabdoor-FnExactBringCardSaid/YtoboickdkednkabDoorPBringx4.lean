/- Several texts in one, in their order. -/
import Derived.Test.YtoboickdkednkabDoorPBringx3
import Derived.Deep.RegionHeld3
import Derived.WalkKit
import Derived.Test.YtoboickdkednkabDoorProg
import Derived.Test.YtoboickdkednkabDoorPBringx1
import Derived.Deep.QuietTactic
import Derived.BigQuiet
import Derived.Test.YtoboickdkednkabDoorPBringx2
set_option maxHeartbeats 8000000
set_option maxRecDepth 100000
namespace Go.Proofs.YtoboickdkednkabDoor
open Go.RowKit
def putList (l : List Int) : List Int := putOf l.length ++ l.flatMap putOf
def putObjOf (o : ObjV) : List Int := if okB o then (putOf o.kind ++ putList o.ints) ++ putList o.refs else []
end Go.Proofs.YtoboickdkednkabDoor
namespace Go.Proofs.YtoboickdkednkabDoor
def lead : List Int → Nat
 | [] => 0
 | z :: r => if 128 ≤ z then lead r + 1 else 0
def valOf : List Int → Nat
 | [] => 0
 | z :: r => (z % 128).toNat + 128 * valOf r
def unzig (m : Nat) : Int := if m % 2 = 0 then ((m / 2 : Nat) : Int) else -((m / 2 : Nat) : Int) - 1
def getOf (L : List Int) : Option (Int × Nat) :=
 if lead L < L.length ∧ lead L < 6 ∧ ¬ (0 < lead L ∧ L.getD (lead L) 0 = 0) ∧ valOf (L.take (lead L + 1)) ≤ 2000000000000 then some (unzig (valOf (L.take (lead L + 1))), lead L + 1) else none
def getAt (zs : List Int) (p : Int) : Option (Int × Nat) := if 0 ≤ p then (getOf (zs.drop p.toNat)).map fun r => (r.1, p.toNat + r.2) else none
end Go.Proofs.YtoboickdkednkabDoor
namespace Go.Proofs.YtoboickdkednkabDoor
def crcBit (x : Nat) : Nat := if x % 2 = 1 then (x / 2) ^^^ 3988292384 else x / 2
def crcBits : Nat → Nat → Nat
 | 0, x => x
 | k + 1, x => crcBit (crcBits k x)
def crcByte (x : Nat) (c : Nat) : Nat := crcBits 8 (x ^^^ c)
def crcTo (zs : List Int) (k : Nat) : Nat := (zs.take k).foldl (fun x c => crcByte x c.toNat) 4294967295
def crcOf (zs : List Int) : Nat := 4294967295 ^^^ crcTo zs zs.length
end Go.Proofs.YtoboickdkednkabDoor
namespace Go.Proofs.YtoboickdkednkabDoor
open Go.RowKit
def nextOf (zs : List Int) (s : Int × Bool) : Int × (Int × Bool) := match s.2, getAt zs s.1 with
 | false, some r => (r.1, ((r.2 : Int), false))
 | _, _ => (0, (s.1, true))
def numsOf (zs : List Int) : Nat → List Int → Int × Bool → List Int × (Int × Bool)
 | 0, l, s => (l, s)
 | k + 1, l, s => if s.2 then (l, s) else numsOf zs k (l ++ [(nextOf zs s).1]) (nextOf zs s).2
def badIf (b : Bool) (s : Int × Bool) : Int × Bool := (s.1, s.2 || b)
def listOf (zs : List Int) (most : Int) (s : Int × Bool) : List Int × (Int × Bool) :=
 numsOf zs (nextOf zs s).1.toNat [] (badIf (!inB (nextOf zs s).1 0 most) (nextOf zs s).2)
end Go.Proofs.YtoboickdkednkabDoor
namespace Go.Proofs.YtoboickdkednkabDoor
end Go.Proofs.YtoboickdkednkabDoor
namespace Go.Proofs.YtoboickdkednkabDoor
open Go.RowKit
def readO (zs : List Int) : ObjV × Bool :=
 (⟨(nextOf zs (0, false)).1, (listOf zs 5 (nextOf zs (0, false)).2).1, (listOf zs 5 (listOf zs 5 (nextOf zs (0, false)).2).2).1⟩, (listOf zs 5 (listOf zs 5 (nextOf zs (0, false)).2).2).2.2)
def getO (b : List Int) : Option ObjV := if (readO b).2 = false ∧ okB (readO b).1 = true ∧ putObjOf (readO b).1 = b then some (readO b).1 else none
def noO : ObjV := ⟨0, [], []⟩
def getPair (b : List Int) : ObjV × Bool := match getO b with
 | some o => (o, true)
 | none => (noO, false)
def Bytes (zs : List Int) : Prop := ∀ z ∈ zs, 0 ≤ z ∧ z < 256
theorem Bytes.drop {zs : List Int} (h : Bytes zs) (p : Nat) : Bytes (zs.drop p) := fun z hz => h z (List.mem_of_mem_drop hz)
end Go.Proofs.YtoboickdkednkabDoor
namespace Go.Proofs.YtoboickdkednkabDoor
open Go.RowKit
def sumByte (x k : Nat) : Int := ((x / 256 ^ k % 256 : Nat) : Int)
def fourTo (x k : Nat) : List Int := (List.range k).map (sumByte x)
def four (x : Nat) : List Int := fourTo x 4
end Go.Proofs.YtoboickdkednkabDoor