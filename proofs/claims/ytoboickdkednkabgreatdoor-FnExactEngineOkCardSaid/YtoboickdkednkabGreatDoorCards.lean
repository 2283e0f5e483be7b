/-
  DERIVED. GIVEN WITH THE SEED: THE CARDS: each row of YtoboickdkednkabGreatDoorRows.lean that lists a variable, with what it lists TIED to the program's text (the seventh form; the later family's looks); each row that meets fmt, with fmt's text TOLD by the authors' own Lean function (tested against real Go, not proved from fmt's source: count such statements apart). THE CARD IS WHAT COUNTS. Prove the row's statement (the work); the ties are given (YtoboickdkednkabGreatDoorTie.lean); close each card by the builder's one call (the guide's Derived/Test/ToyasCard.lean, 'card_holds'). Laid BY PROGRAM, IN A SANDBOX (cutbox-door.mjs). By AI agents, Wed Nov 11 2026. No macro, syntax, notation, axiom, sorry.
-/
import Derived.Test.YtoboickdkednkabGreatDoorRows
import GoSem.ClaimSeven
namespace Go.Proofs.YtoboickdkednkabGreatDoor
namespace Rows

/-- THE TIED CARD OF 'laws.FnExactEngineOk'. -/
def fnExactEngineOkCard : Claim7 := { stood := { row := fnExactEngineOkRow, standIns := [], harness := (true, "f15c6e46ce273ce372f4d6e4f8d2a4ea5cb4aafd9fff1d0f2a832f01538e19cd"), looks := true }, kinds := [], alts := [], laidByText := true, laidKinds := [.handle], laidTests := true, laidLooks := .later }
def FnExactEngineOkCardSaid : Prop := Claim7.holds Tryz.pinned (.plain (OpenSpec.ofChange fnExactEngineOkSpec)) fnExactEngineOkCard

/-- THE TIED CARD OF 'laws.FnExactBegin'. -/
def fnExactBeginCard : Claim7 := { stood := { row := fnExactBeginRow, standIns := [], harness := (true, "f15c6e46ce273ce372f4d6e4f8d2a4ea5cb4aafd9fff1d0f2a832f01538e19cd"), looks := true }, kinds := [], alts := [], laidByText := true, laidKinds := [.handle], laidTests := true, laidLooks := .later }
def FnExactBeginCardSaid : Prop := Claim7.holds Tryz.pinned (.plain (OpenSpec.ofChange fnExactBeginSpec)) fnExactBeginCard

/-- THE TIED CARD OF 'laws.FnExactSet'. -/
def fnExactSetCard : Claim7 := { stood := { row := fnExactSetRow, standIns := [], harness := (true, "f15c6e46ce273ce372f4d6e4f8d2a4ea5cb4aafd9fff1d0f2a832f01538e19cd"), looks := true }, kinds := [], alts := [], laidByText := true, laidKinds := [.handle], laidTests := true, laidLooks := .later }
def FnExactSetCardSaid : Prop := Claim7.holds Tryz.pinned (.plain (OpenSpec.ofChange fnExactSetSpec)) fnExactSetCard

/-- THE TIED CARD OF 'laws.FnExactGet'. -/
def fnExactGetCard : Claim7 := { stood := { row := fnExactGetRow, standIns := [], harness := (true, "f15c6e46ce273ce372f4d6e4f8d2a4ea5cb4aafd9fff1d0f2a832f01538e19cd"), looks := true }, kinds := [], alts := [], laidByText := true, laidKinds := [.handle], laidTests := true, laidLooks := .later }
def FnExactGetCardSaid : Prop := Claim7.holds Tryz.pinned (.plain (OpenSpec.ofChange fnExactGetSpec)) fnExactGetCard

/-- THE SECOND FORM's CARD OF 'laws.FnExactEngineOk'. -/
def fnExactEngineOkUptoCard : Claim7 := { stood := { row := fnExactEngineOkUptoRow, standIns := [], harness := (true, "f15c6e46ce273ce372f4d6e4f8d2a4ea5cb4aafd9fff1d0f2a832f01538e19cd"), looks := true }, kinds := [], alts := [], laidByText := true, laidKinds := [.handle], laidTests := true, laidLooks := .later }
def FnExactEngineOkUptoCardSaid : Prop := Claim7.holds Tryz.pinned (.plain (OpenSpec.upto fnExactEngineOkSpec)) fnExactEngineOkUptoCard

/-- THE SECOND FORM's CARD OF 'laws.FnExactBegin'. -/
def fnExactBeginUptoCard : Claim7 := { stood := { row := fnExactBeginUptoRow, standIns := [], harness := (true, "f15c6e46ce273ce372f4d6e4f8d2a4ea5cb4aafd9fff1d0f2a832f01538e19cd"), looks := true }, kinds := [], alts := [], laidByText := true, laidKinds := [.handle], laidTests := true, laidLooks := .later }
def FnExactBeginUptoCardSaid : Prop := Claim7.holds Tryz.pinned (.plain (OpenSpec.upto fnExactBeginSpec)) fnExactBeginUptoCard

/-- THE SECOND FORM's CARD OF 'laws.FnExactSet'. -/
def fnExactSetUptoCard : Claim7 := { stood := { row := fnExactSetUptoRow, standIns := [], harness := (true, "f15c6e46ce273ce372f4d6e4f8d2a4ea5cb4aafd9fff1d0f2a832f01538e19cd"), looks := true }, kinds := [], alts := [], laidByText := true, laidKinds := [.handle], laidTests := true, laidLooks := .later }
def FnExactSetUptoCardSaid : Prop := Claim7.holds Tryz.pinned (.plain (OpenSpec.upto fnExactSetSpec)) fnExactSetUptoCard

/-- THE SECOND FORM's CARD OF 'laws.FnExactGet'. -/
def fnExactGetUptoCard : Claim7 := { stood := { row := fnExactGetUptoRow, standIns := [], harness := (true, "f15c6e46ce273ce372f4d6e4f8d2a4ea5cb4aafd9fff1d0f2a832f01538e19cd"), looks := true }, kinds := [], alts := [], laidByText := true, laidKinds := [.handle], laidTests := true, laidLooks := .later }
def FnExactGetUptoCardSaid : Prop := Claim7.holds Tryz.pinned (.plain (OpenSpec.upto fnExactGetSpec)) fnExactGetUptoCard
end Rows
end Go.Proofs.YtoboickdkednkabGreatDoor
