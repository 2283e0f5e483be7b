/- Several texts in one, in their order. -/
import Derived.WalkKit
import Derived.Test.YtoboickdkednkaaDoorPFnPoolsx1
import Derived.Test.YtoboickdkednkaaDoorPFnPoolsx3
import Derived.Deep.RegionHeld3
import Derived.Test.YtoboickdkednkaaDoorProg
import Derived.Deep.QuietTactic
import Derived.BigQuiet
/- Plain mathematics of numbers in bytes: groups of seven bits, the lowest first. -/
namespace Go.Proofs.YtoboickdkednkaaDoor

def groupsN : Nat → Nat → List Int
  | 0, m => [(m : Int)]
  | f + 1, m => if m < 128 then [(m : Int)] else ((m % 128 + 128 : Nat) : Int) :: groupsN f (m / 128)
def groups (m : Nat) : List Int := groupsN 64 m

/-- A number beyond the greatest counts as that. -/
def clampI (n : Int) : Int := if n > 1000000000000 then 1000000000000 else if n < -1000000000000 then -1000000000000 else n
def zig (n : Int) : Nat := if 0 ≤ clampI n then (2 * clampI n).toNat else (-2 * clampI n - 1).toNat
def putOf (n : Int) : List Int := groups (zig n)

end Go.Proofs.YtoboickdkednkaaDoor

/- The walks of impl.appendGroups and impl.foldSign. -/
namespace Go.Proofs.YtoboickdkednkaaDoor
open Go.RowKit

end Go.Proofs.YtoboickdkednkaaDoor

/- The walk of spec.PutInt. -/
namespace Go.Proofs.YtoboickdkednkaaDoor
open Go.RowKit

end Go.Proofs.YtoboickdkednkaaDoor

/- The bytes of an object; the walks of spec.l2PutList and spec.PutObj. -/
namespace Go.Proofs.YtoboickdkednkaaDoor
open Go.RowKit

def putList (l : List Int) : List Int := putOf l.length ++ l.flatMap putOf
def putObjOf (o : ObjV) : List Int := if okB o then (putOf o.kind ++ putList o.ints) ++ putList o.refs else []

end Go.Proofs.YtoboickdkednkaaDoor

/- Plain mathematics of reading a number: how many groups say that more come, what they hold. -/
namespace Go.Proofs.YtoboickdkednkaaDoor

/-- How many of the first bytes say that more come. -/
def lead : List Int → Nat
  | [] => 0
  | z :: r => if 128 ≤ z then lead r + 1 else 0
def valOf : List Int → Nat
  | [] => 0
  | z :: r => (z % 128).toNat + 128 * valOf r
def unzig (m : Nat) : Int := if m % 2 = 0 then ((m / 2 : Nat) : Int) else -((m / 2 : Nat) : Int) - 1
/-- The number whose bytes begin a list, and how many they are. -/
def getOf (L : List Int) : Option (Int × Nat) :=
  if lead L < L.length ∧ lead L < 6 ∧ ¬ (0 < lead L ∧ L.getD (lead L) 0 = 0) ∧ valOf (L.take (lead L + 1)) ≤ 2000000000000 then some (unzig (valOf (L.take (lead L + 1))), lead L + 1) else none
def getAt (zs : List Int) (p : Int) : Option (Int × Nat) := if 0 ≤ p then (getOf (zs.drop p.toNat)).map fun r => (r.1, p.toNat + r.2) else none

end Go.Proofs.YtoboickdkednkaaDoor

/- The walks of spec.l1In and spec.GetInt. -/
namespace Go.Proofs.YtoboickdkednkaaDoor
open Go.RowKit


end Go.Proofs.YtoboickdkednkaaDoor

/- The walks of spec.l2Next and spec.l2List: a reader over bytes. -/
namespace Go.Proofs.YtoboickdkednkaaDoor
open Go.RowKit

/-- What the next number is, and where the reader is behind it: a place, and whether it is bad. -/
def nextOf (zs : List Int) (s : Int × Bool) : Int × (Int × Bool) := match s.2, getAt zs s.1 with
  | false, some r => (r.1, ((r.2 : Int), false))
  | _, _ => (0, (s.1, true))
/-- k more numbers, as long as it is not bad. -/
def numsOf (zs : List Int) : Nat → List Int → Int × Bool → List Int × (Int × Bool)
  | 0, l, s => (l, s)
  | k + 1, l, s => if s.2 then (l, s) else numsOf zs k (l ++ [(nextOf zs s).1]) (nextOf zs s).2
def badIf (b : Bool) (s : Int × Bool) : Int × Bool := (s.1, s.2 || b)
def listOf (zs : List Int) (most : Int) (s : Int × Bool) : List Int × (Int × Bool) :=
  numsOf zs (nextOf zs s).1.toNat [] (badIf (!inB (nextOf zs s).1 0 most) (nextOf zs s).2)

end Go.Proofs.YtoboickdkednkaaDoor

/- Plain mathematics: a number comes back of its bytes; cut, it does not. -/
namespace Go.Proofs.YtoboickdkednkaaDoor

end Go.Proofs.YtoboickdkednkaaDoor

/- Plain mathematics: an object comes back of its bytes, and of them alone. -/
namespace Go.Proofs.YtoboickdkednkaaDoor
open Go.RowKit

/-- What a reader reads of an object, and whether it is bad behind it. -/
def readO (zs : List Int) : ObjV × Bool :=
  (⟨(nextOf zs (0, false)).1, (listOf zs 5 (nextOf zs (0, false)).2).1, (listOf zs 5 (listOf zs 5 (nextOf zs (0, false)).2).2).1⟩, (listOf zs 5 (listOf zs 5 (nextOf zs (0, false)).2).2).2.2)

/-- The object whose bytes these are: a reader finds it, if there is one. -/
def getO (b : List Int) : Option ObjV := if (readO b).2 = false ∧ okB (readO b).1 = true ∧ putObjOf (readO b).1 = b then some (readO b).1 else none
def noO : ObjV := ⟨0, [], []⟩
def getPair (b : List Int) : ObjV × Bool := match getO b with
  | some o => (o, true)
  | none => (noO, false)
end Go.Proofs.YtoboickdkednkaaDoor
