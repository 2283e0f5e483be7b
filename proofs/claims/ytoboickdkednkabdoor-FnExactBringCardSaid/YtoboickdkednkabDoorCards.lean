/-
  DERIVED. GIVEN WITH THE SEED: THE CARDS: each row of YtoboickdkednkabDoorRows.lean that lists a variable, with what it lists TIED to the program's text (the seventh form; the later family's looks); each row that meets fmt, with fmt's text TOLD by the authors' own Lean function (tested against real Go, not proved from fmt's source: count such statements apart). THE CARD IS WHAT COUNTS. Prove the row's statement (the work); the ties are given (YtoboickdkednkabDoorTie.lean); close each card by the builder's one call (the guide's Derived/Test/ToyasCard.lean, 'card_holds'). Laid BY PROGRAM, IN A SANDBOX (cutbox-door.mjs). By AI agents, Wed Nov 11 2026. No macro, syntax, notation, axiom, sorry.
-/
import Derived.Test.YtoboickdkednkabDoorRows
import GoSem.ClaimSeven
namespace Go.Proofs.YtoboickdkednkabDoor
namespace Rows

/-- THE TIED CARD OF 'laws.FnExactBring'. -/
def fnExactBringCard : Claim7 := { stood := { row := fnExactBringRow, standIns := [], harness := (true, "47fe98046cd967b50bce63942f049874e452e0aee11b6a836946e780db4bed14"), looks := true }, kinds := [], alts := [], laidByText := true, laidKinds := [.handle], laidTests := true, laidLooks := .later }
def FnExactBringCardSaid : Prop := Claim7.holds Tryd.pinned (.plain (OpenSpec.ofChange fnExactBringSpec)) fnExactBringCard

/-- THE SECOND FORM's CARD OF 'laws.FnExactBring'. -/
def fnExactBringUptoCard : Claim7 := { stood := { row := fnExactBringUptoRow, standIns := [], harness := (true, "47fe98046cd967b50bce63942f049874e452e0aee11b6a836946e780db4bed14"), looks := true }, kinds := [], alts := [], laidByText := true, laidKinds := [.handle], laidTests := true, laidLooks := .later }
def FnExactBringUptoCardSaid : Prop := Claim7.holds Tryd.pinned (.plain (OpenSpec.upto fnExactBringSpec)) fnExactBringUptoCard
end Rows
end Go.Proofs.YtoboickdkednkabDoor
