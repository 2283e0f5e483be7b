/-
  DERIVED. GIVEN WITH THE SEED: THE CARDS: each row of YtnfdccldabbobaaGreatDoorRows.lean that lists a variable, with what it lists TIED to the program's text (the seventh form; the later family's looks); each row that meets fmt, with fmt's text TOLD by the authors' own Lean function (tested against real Go, not proved from fmt's source: count such statements apart). THE CARD IS WHAT COUNTS. Prove the row's statement (the work); the ties are given (YtnfdccldabbobaaGreatDoorTie.lean); close each card by the builder's one call (the guide's Derived/Test/ToyasCard.lean, 'card_holds'). Laid BY PROGRAM, IN A SANDBOX (cutbox-door.mjs). By AI agents, Wed Nov 11 2026. No macro, syntax, notation, axiom, sorry.
-/
import Derived.Test.YtnfdccldabbobaaGreatDoorRows
import GoSem.ClaimSeven
namespace Go.Proofs.YtnfdccldabbobaaGreatDoor
namespace Rows

/-- THE TIED CARD OF 'laws.FnExactSet'. -/
def fnExactSetCard : Claim7 := { stood := { row := fnExactSetRow, standIns := [], harness := (true, "d0beaa81338cfc04216e1f60a6ef8232ede8c83ec87a30463c26d9d18e551c53"), looks := true }, kinds := [], alts := [], laidByText := true, laidKinds := [.handle], laidTests := true, laidLooks := .later }
def FnExactSetCardSaid : Prop := Claim7.holds Tryz.pinned (.plain (OpenSpec.ofChange fnExactSetSpec)) fnExactSetCard

/-- THE SECOND FORM's CARD OF 'laws.FnExactSet'. -/
def fnExactSetUptoCard : Claim7 := { stood := { row := fnExactSetUptoRow, standIns := [], harness := (true, "d0beaa81338cfc04216e1f60a6ef8232ede8c83ec87a30463c26d9d18e551c53"), looks := true }, kinds := [], alts := [], laidByText := true, laidKinds := [.handle], laidTests := true, laidLooks := .later }
def FnExactSetUptoCardSaid : Prop := Claim7.holds Tryz.pinned (.plain (OpenSpec.upto fnExactSetSpec)) fnExactSetUptoCard
end Rows
end Go.Proofs.YtnfdccldabbobaaGreatDoor
