/- What is owned stays so while another row is written; marks by OwnB. -/
import Derived.Test.YtdibmepjbabnnacDoorAppend
import Derived.Test.YtdibmepjbabnnacDoorMark
import Derived.Test.YtdibmepjbabnnacDoorCopy
import Derived.Test.YtdibmepjbabnnacDoorEq
import Derived.WalkSmall
namespace Go.Proofs.YtdibmepjbabnnacDoor
open Go.RowKit

theorem OwnB.kept {w w' : World} {base : Nat} {a : Option Addr} {c : Nat} {ys : List Int} {row : Option Nat} (h : OwnB w base a c ys) (hg : w.grownBy w' row)
    (hne : ∀ k, (Value.slice a ys.length c).ownBlock = some k → row ≠ some k) : OwnB w' base a c ys := by
  refine ⟨h.1, h.2.kept hg ?_⟩
  cases hv : (Value.slice a ys.length c).ownBlock with
  | none => exact .inl rfl
  | some k => exact .inr fun e => hne k hv e.symm

theorem OwnB.drewN {w : World} {base : Nat} {a : Option Addr} {c : Nat} {ys : List Int} (h : OwnB w base a c ys) (n : Nat) : OwnB (w.drewN n) base a c ys := h.below (below_drewN (Below.refl _ _) n)

theorem OwnB.lt {w : World} {base : Nat} {a : Option Addr} {c : Nat} {ys : List Int} (h : OwnB w base a c ys) : ∀ k, (Value.slice a ys.length c).ownBlock = some k → base ≤ k ∧ k < w.heap.size := h.2.lt

theorem toByteS_own (a : Option Addr) (cap : Nat) (zs : List Int) (w : World) (hr : Reads w a zs) (hl : zs.length ≤ 140737488351232) :
    Calls Tryd.prog 7 #[.slice a zs.length cap] w fun e w' => ∃ a' c', e = .returned (.slice a' zs.length c') ∧ OwnB w' w.heap.size a' c' zs ∧ Below w.heap.size w w' := by
  refine (toByteS_any a cap zs w hr hl).mono ?_
  rintro e w' ⟨rfl, ho, hb⟩
  exact ⟨_, _, rfl, ⟨hr.byte, ho⟩, hb⟩

theorem markByteS_own (base : Nat) (a : Option Addr) (cap : Nat) (k0 : Int) (xs : List Int) (w : World) (ho : OwnB w base a cap xs) (h0 : 0 ≤ k0) (hl : k0 + xs.length ≤ 4611686018427387904) :
    Calls Tryd.prog 11 #[.slice a xs.length cap, .int .i64 k0] w fun e w' => ∃ ms, e = .returned (.int .i64 (k0 + xs.length)) ∧ Hid (ms = marks k0 xs.length ∧ ms.length = xs.length) ∧ OwnB w' base a cap ms ∧ w.grownBy w' (Value.slice a xs.length cap).ownBlock := by
  refine (markByteS_any base a cap k0 xs w ho.2 h0 hl).mono ?_
  rintro e w' ⟨rfl, h1, h2⟩
  refine ⟨marks k0 xs.length, rfl, ⟨rfl, marks_len _ _⟩, ⟨marks_byte _ _, ?_⟩, h2⟩
  rw [marks_len]
  exact h1

end Go.Proofs.YtdibmepjbabnnacDoor
