/-
  DERIVED. GIVEN WITH THE SEED: THE CARDS: each row of YtbpdocjkhmiimaaDoorRows.lean that lists a variable, with what it lists TIED to the program's text (the seventh form; the later family's looks); each row that meets fmt, with fmt's text TOLD by the authors' own Lean function (tested against real Go, not proved from fmt's source: count such statements apart). THE CARD IS WHAT COUNTS. Prove the row's statement (the work); the ties are given (YtbpdocjkhmiimaaDoorTie.lean); close each card by the builder's one call (the guide's Derived/Test/ToyasCard.lean, 'card_holds'). Laid BY PROGRAM, IN A SANDBOX (cutbox-door.mjs). By AI agents, Wed Nov 11 2026. No macro, syntax, notation, axiom, sorry.
-/
import Derived.Test.YtbpdocjkhmiimaaDoorRows
import GoSem.ClaimSeven
namespace Go.Proofs.YtbpdocjkhmiimaaDoor
namespace Rows

/-- THE TIED CARD OF 'laws.FnExactLogOk'. -/
def fnExactLogOkCard : Claim7 := { stood := { row := fnExactLogOkRow, standIns := [], harness := (true, "ee2e1fec15b90918c81028ca04ccf204b14c422086451446d2953c844b03d58e"), looks := true }, kinds := [], alts := [], laidByText := true, laidKinds := [.handle], laidTests := true, laidLooks := .later }
def FnExactLogOkCardSaid : Prop := Claim7.holds Tryd.pinned (.plain (OpenSpec.ofChange fnExactLogOkSpec)) fnExactLogOkCard

/-- THE SECOND FORM's CARD OF 'laws.FnExactLogOk'. -/
def fnExactLogOkUptoCard : Claim7 := { stood := { row := fnExactLogOkUptoRow, standIns := [], harness := (true, "ee2e1fec15b90918c81028ca04ccf204b14c422086451446d2953c844b03d58e"), looks := true }, kinds := [], alts := [], laidByText := true, laidKinds := [.handle], laidTests := true, laidLooks := .later }
def FnExactLogOkUptoCardSaid : Prop := Claim7.holds Tryd.pinned (.plain (OpenSpec.upto fnExactLogOkSpec)) fnExactLogOkUptoCard
end Rows
end Go.Proofs.YtbpdocjkhmiimaaDoor
