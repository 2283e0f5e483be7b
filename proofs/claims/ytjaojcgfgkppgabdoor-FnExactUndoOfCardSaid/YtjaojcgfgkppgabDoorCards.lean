/-
  DERIVED. GIVEN WITH THE SEED: THE CARDS: each row of YtjaojcgfgkppgabDoorRows.lean that lists a variable, with what it lists TIED to the program's text (the seventh form; the later family's looks); each row that meets fmt, with fmt's text TOLD by the authors' own Lean function (tested against real Go, not proved from fmt's source: count such statements apart). THE CARD IS WHAT COUNTS. Prove the row's statement (the work); the ties are given (YtjaojcgfgkppgabDoorTie.lean); close each card by the builder's one call (the guide's Derived/Test/ToyasCard.lean, 'card_holds'). Laid BY PROGRAM, IN A SANDBOX (cutbox-door.mjs). By AI agents, Wed Nov 11 2026. No macro, syntax, notation, axiom, sorry.
-/
import Derived.Test.YtjaojcgfgkppgabDoorRows
import GoSem.ClaimSeven
namespace Go.Proofs.YtjaojcgfgkppgabDoor
namespace Rows

/-- THE TIED CARD OF 'laws.FnExactUndoOf'. -/
def fnExactUndoOfCard : Claim7 := { stood := { row := fnExactUndoOfRow, standIns := [], harness := (true, "51db389d8ece4571368e9af7d91f28233c80dd9da35645b0d66b9df677013f1a"), looks := true }, kinds := [], alts := [], laidByText := true, laidKinds := [.handle], laidTests := true, laidLooks := .later }
def FnExactUndoOfCardSaid : Prop := Claim7.holds Tryd.pinned (.plain (OpenSpec.ofChange fnExactUndoOfSpec)) fnExactUndoOfCard

/-- THE SECOND FORM's CARD OF 'laws.FnExactUndoOf'. -/
def fnExactUndoOfUptoCard : Claim7 := { stood := { row := fnExactUndoOfUptoRow, standIns := [], harness := (true, "51db389d8ece4571368e9af7d91f28233c80dd9da35645b0d66b9df677013f1a"), looks := true }, kinds := [], alts := [], laidByText := true, laidKinds := [.handle], laidTests := true, laidLooks := .later }
def FnExactUndoOfUptoCardSaid : Prop := Claim7.holds Tryd.pinned (.plain (OpenSpec.upto fnExactUndoOfSpec)) fnExactUndoOfUptoCard
end Rows
end Go.Proofs.YtjaojcgfgkppgabDoor
