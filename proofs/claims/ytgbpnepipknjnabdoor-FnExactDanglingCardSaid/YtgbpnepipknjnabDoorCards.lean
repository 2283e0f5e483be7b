/-
  DERIVED. GIVEN WITH THE SEED: THE CARDS: each row of YtgbpnepipknjnabDoorRows.lean that lists a variable, with what it lists TIED to the program's text (the seventh form; the later family's looks); each row that meets fmt, with fmt's text TOLD by the authors' own Lean function (tested against real Go, not proved from fmt's source: count such statements apart). THE CARD IS WHAT COUNTS. Prove the row's statement (the work); the ties are given (YtgbpnepipknjnabDoorTie.lean); close each card by the builder's one call (the guide's Derived/Test/ToyasCard.lean, 'card_holds'). Laid BY PROGRAM, IN A SANDBOX (cutbox-door.mjs). By AI agents, Wed Nov 11 2026. No macro, syntax, notation, axiom, sorry.
-/
import Derived.Test.YtgbpnepipknjnabDoorRows
import GoSem.ClaimSeven
namespace Go.Proofs.YtgbpnepipknjnabDoor
namespace Rows

/-- THE TIED CARD OF 'laws.FnExactDangling'. -/
def fnExactDanglingCard : Claim7 := { stood := { row := fnExactDanglingRow, standIns := [], harness := (true, "8681895777ccac5aa456f6ce4354c5c0425a752164c9ffad85460a86e772e0b6"), looks := true }, kinds := [], alts := [], laidByText := true, laidKinds := [.handle], laidTests := true, laidLooks := .later }
def FnExactDanglingCardSaid : Prop := Claim7.holds Tryd.pinned (.plain (OpenSpec.ofChange fnExactDanglingSpec)) fnExactDanglingCard

/-- THE SECOND FORM's CARD OF 'laws.FnExactDangling'. -/
def fnExactDanglingUptoCard : Claim7 := { stood := { row := fnExactDanglingUptoRow, standIns := [], harness := (true, "8681895777ccac5aa456f6ce4354c5c0425a752164c9ffad85460a86e772e0b6"), looks := true }, kinds := [], alts := [], laidByText := true, laidKinds := [.handle], laidTests := true, laidLooks := .later }
def FnExactDanglingUptoCardSaid : Prop := Claim7.holds Tryd.pinned (.plain (OpenSpec.upto fnExactDanglingSpec)) fnExactDanglingUptoCard
end Rows
end Go.Proofs.YtgbpnepipknjnabDoor
