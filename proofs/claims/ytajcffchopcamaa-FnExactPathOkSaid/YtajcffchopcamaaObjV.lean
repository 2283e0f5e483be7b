/- Objects: what they are, what a walk reads and owns of them. -/
import Derived.Test.YtajcffchopcamaaInts
import Derived.Test.YtajcffchopcamaaBox
namespace Go.Proofs.Ytajcffchopcamaa
open Go.RowKit

structure ObjV where
  kind : Int
  ints : List Int
  refs : List Int

/-- The value of an object whose lists lie at aI and aR. -/
def ObjV.val (o : ObjV) (aI : Option Addr) (cI : Nat) (aR : Option Addr) (cR : Nat) : Value := .agg #[.int .i64 o.kind, .slice aI o.ints.length cI, .slice aR o.refs.length cR]

structure ReadsO (w : World) (aI : Option Addr) (cI : Nat) (aR : Option Addr) (cR : Nat) (o : ObjV) : Prop where
  ints : ReadsI w aI o.ints
  refs : ReadsI w aR o.refs
  ni : aI = none → cI = 0
  nr : aR = none → cR = 0

structure OwnO (w : World) (lo hi : Nat) (aI : Option Addr) (cI : Nat) (aR : Option Addr) (cR : Nat) (o : ObjV) : Prop where
  ints : OwnI w lo hi aI cI o.ints
  refs : OwnI w lo hi aR cR o.refs
  apart : ∀ k, (Value.slice aI o.ints.length cI).ownBlock = some k → (Value.slice aR o.refs.length cR).ownBlock ≠ some k

theorem ReadsO.below {w w' : World} {aI : Option Addr} {cI : Nat} {aR : Option Addr} {cR : Nat} {o : ObjV} (h : ReadsO w aI cI aR cR o) (hb : Below w.heap.size w w') : ReadsO w' aI cI aR cR o := ⟨h.ints.below hb, h.refs.below hb, h.ni, h.nr⟩
theorem ReadsO.drew {w : World} {aI : Option Addr} {cI : Nat} {aR : Option Addr} {cR : Nat} {o : ObjV} (h : ReadsO w aI cI aR cR o) : ReadsO w.drew aI cI aR cR o := h.below (Below.refl _ _).drew
theorem OwnO.reads {w : World} {lo hi : Nat} {aI : Option Addr} {cI : Nat} {aR : Option Addr} {cR : Nat} {o : ObjV} (h : OwnO w lo hi aI cI aR cR o) : ReadsO w aI cI aR cR o := ⟨h.ints.reads, h.refs.reads, h.ints.nocap, h.refs.nocap⟩
theorem OwnO.within {w w' : World} {lo hi l r : Nat} {aI : Option Addr} {cI : Nat} {aR : Option Addr} {cR : Nat} {o : ObjV} (h : OwnO w lo hi aI cI aR cR o) (hw : Within l r w w') (hd : hi ≤ l ∨ r ≤ lo) : OwnO w' lo hi aI cI aR cR o := ⟨h.ints.within hw hd, h.refs.within hw hd, h.apart⟩
theorem OwnO.below {w w' : World} {lo hi : Nat} {aI : Option Addr} {cI : Nat} {aR : Option Addr} {cR : Nat} {o : ObjV} (h : OwnO w lo hi aI cI aR cR o) (hb : Below w.heap.size w w') : OwnO w' lo hi aI cI aR cR o := ⟨h.ints.below hb, h.refs.below hb, h.apart⟩
theorem OwnO.widen {w : World} {lo hi lo' hi' : Nat} {aI : Option Addr} {cI : Nat} {aR : Option Addr} {cR : Nat} {o : ObjV} (h : OwnO w lo hi aI cI aR cR o) (h1 : lo' ≤ lo) (h2 : hi ≤ hi') (h3 : hi' ≤ w.heap.size) : OwnO w lo' hi' aI cI aR cR o := ⟨h.ints.widen h1 h2 h3, h.refs.widen h1 h2 h3, h.apart⟩

theorem OwnI.kept {w w' : World} {lo hi : Nat} {a : Option Addr} {c : Nat} {ns : List Int} {row : Option Nat} (h : OwnI w lo hi a c ns) (hg : w.grownBy w' row) (hne : ∀ k, (Value.slice a ns.length c).ownBlock = some k → row ≠ some k) : OwnI w' lo hi a c ns :=
  ⟨ownsRow_block h.1 (fun k hk => hg.block k (h.1.lt k hk).2 (fun e => hne k hk e.symm)), Nat.le_trans h.2.1 hg.size, h.2.2⟩
end Go.Proofs.Ytajcffchopcamaa
