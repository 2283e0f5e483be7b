/- Several texts in one, in their order. -/
import Derived.Test.YtnoeobahjbdoiaaPViewx1
import Derived.Deep.MidRow
import Derived.WalkKit
import Derived.Test.YtnoeobahjbdoiaaProg
import Derived.Deep.RegionHeld3
import Derived.Deep.QuietTactic
import Derived.BigQuiet
set_option maxHeartbeats 8000000
set_option maxRecDepth 100000
namespace Go.Proofs.Ytnoeobahjbdoiaa
open Go.RowKit
theorem Box.range {w:World} {B:Nat} {t:TypeId} (pre cs post:List Value) (b:Box w B (pre++(cs++post)) t):w.rangeAt B pre.length cs:=by
 intro j v hv
 have hj:j<cs.length:=(List.getElem?_eq_some_iff.1 hv).1
 refine b.cell _ v ?_
 rw [List.getElem?_append_right (by omega),List.getElem?_append_left (by omega)]
 rw [show pre.length+j-pre.length=j by omega]
 exact hv
theorem Box.there {w:World} {B:Nat} {vs:List Value} {t:TypeId} (b:Box w B vs t) (o n:Nat) (h:o+n≤vs.length):w.there B o n:=fun j hj=>
 ⟨by rw [b.cell (o+j) _ (List.getElem?_eq_getElem (by omega))];rfl,b.frozen _⟩
theorem set_range (pre post:List Value):∀ (old cs:List Value),old.length=cs.length→∀ (w:World) (B:Nat) (t:TypeId),Box w B (pre++(old++post)) t→Box (w.setCells B pre.length cs) B (pre++(cs++post)) t:=by
 intro old
 induction old generalizing pre with
 | nil=>intro cs h w B t b;obtain rfl:=List.length_eq_zero_iff.1 h.symm;exact b
 | cons x r ih=>
  intro cs h w B t b
  obtain ⟨c,cr,rfl⟩:∃ c cr,cs=c::cr:=by
   cases cs with
   | nil=>simp at h
   | cons c cr=>exact ⟨c,cr,rfl⟩
  have hb:=b.set pre.length c
  rw [List.set_append_right _ _ (Nat.le_refl _),Nat.sub_self] at hb
  simp only [List.cons_append,List.set_cons_zero] at hb
  have hb':Box (w.setCell ⟨B,pre.length,none⟩ c) B ((pre++[c])++(r++post)) t:=by simpa using hb
  have:=ih (pre++[c]) cr (by simpa using h) _ B t hb'
  simp only [List.length_append,List.length_singleton] at this
  rw [World.setCells]
  simpa using this
theorem range_fill {w:World} {B:Nat} {t:TypeId} (pre old cs post:List Value) (b:Box w B (pre++(old++post)) t) (h:old.length=cs.length):
  ∃ W,Hid (w.setCells B pre.length cs=W)∧Box W B (pre++(cs++post)) t∧Within B (B+1) w W∧W.heap.size=w.heap.size:=by
 refine ⟨_,rfl,set_range pre post old cs h w B t b,within_setCells _ _ _ _,?_⟩
 have h1:=(within_setCells B pre.length cs w).size
 have:∀ (vs:List Value) (o:Nat) (w:World),(w.setCells B o vs).heap.size=w.heap.size:=by
  intro vs
  induction vs with
  | nil=>intro o w;rfl
  | cons v r ih=>intro o w;rw [World.setCells,ih];simp
 exact this _ _ _
theorem oneS (ss:List SlotA):∀ v∈cellsS ss,v.oneCell'=true:=by
 intro v hv
 obtain ⟨s,_,hs⟩:=List.mem_flatMap.1 hv
 simp only [SlotA.cells,List.mem_cons,List.not_mem_nil,or_false] at hs
 rcases hs with rfl | rfl | rfl | rfl<;>rfl
structure PageA where
 lsn:Int
 ss:List SlotA
def PageA.cells (p:PageA):List Value:=.int .i64 p.lsn::cellsS p.ss
theorem oneP (p:PageA):∀ v∈p.cells,v.oneCell'=true:=by
 intro v hv
 rcases List.mem_cons.1 hv with rfl | h
 ·rfl
 ·exact oneS _ v h
theorem page_len (p:PageA) (h:p.ss.length=4):p.cells.length=17:=by simp [PageA.cells,cellsS_len,h]
end Go.Proofs.Ytnoeobahjbdoiaa
namespace Go.Proofs.Ytnoeobahjbdoiaa
end Go.Proofs.Ytnoeobahjbdoiaa
namespace Go.Proofs.Ytnoeobahjbdoiaa
open Go.RowKit
end Go.Proofs.Ytnoeobahjbdoiaa
namespace Go.Proofs.Ytnoeobahjbdoiaa
def groupsN:Nat→Nat→List Int
 | 0,m=>[(m:Int)]
 | f+1,m=>if m<128 then [(m:Int)] else ((m % 128+128:Nat):Int)::groupsN f (m / 128)
def groups (m:Nat):List Int:=groupsN 64 m
def clampI (n:Int):Int:=if n > 1000000000000 then 1000000000000 else if n < -1000000000000 then -1000000000000 else n
def zig (n:Int):Nat:=if 0≤clampI n then (2*clampI n).toNat else (-2*clampI n-1).toNat
def putOf (n:Int):List Int:=groups (zig n)
end Go.Proofs.Ytnoeobahjbdoiaa
namespace Go.Proofs.Ytnoeobahjbdoiaa
open Go.RowKit
end Go.Proofs.Ytnoeobahjbdoiaa
namespace Go.Proofs.Ytnoeobahjbdoiaa
end Go.Proofs.Ytnoeobahjbdoiaa
namespace Go.Proofs.Ytnoeobahjbdoiaa
def crcBit (x:Nat):Nat:=if x % 2=1 then (x / 2) ^^^ 3988292384 else x / 2
def crcBits:Nat→Nat→Nat
 | 0,x=>x
 | k+1,x=>crcBit (crcBits k x)
def crcByte (x:Nat) (c:Nat):Nat:=crcBits 8 (x ^^^ c)
def crcTo (zs:List Int) (k:Nat):Nat:=(zs.take k).foldl (fun x c=>crcByte x c.toNat) 4294967295
def crcOf (zs:List Int):Nat:=4294967295 ^^^ crcTo zs zs.length
end Go.Proofs.Ytnoeobahjbdoiaa
namespace Go.Proofs.Ytnoeobahjbdoiaa
open Go.RowKit
end Go.Proofs.Ytnoeobahjbdoiaa
namespace Go.Proofs.Ytnoeobahjbdoiaa
end Go.Proofs.Ytnoeobahjbdoiaa
namespace Go.Proofs.Ytnoeobahjbdoiaa
open Go.RowKit
def Bytes (zs:List Int):Prop:=∀ z∈zs,0≤z∧z<256
theorem Bytes.drop {zs:List Int} (h:Bytes zs) (p:Nat):Bytes (zs.drop p):=fun z hz=>h z (List.mem_of_mem_drop hz)
def sumByte (x k:Nat):Int:=((x / 256 ^ k % 256:Nat):Int)
def fourTo (x k:Nat):List Int:=(List.range k).map (sumByte x)
def four (x:Nat):List Int:=fourTo x 4
def frameOf (zs:List Int):List Int:=(putOf zs.length++zs)++four (crcOf zs)
end Go.Proofs.Ytnoeobahjbdoiaa
namespace Go.Proofs.Ytnoeobahjbdoiaa
open Go.RowKit
def Fit (ss:List SlotA):Prop:=∀ s∈ss,s.v.o.ints.length≤1099511627776∧s.v.o.refs.length≤1099511627776
end Go.Proofs.Ytnoeobahjbdoiaa