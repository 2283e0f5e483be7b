/-
  DERIVED. GIVEN WITH THE SEED: THE CARDS: each row of YtdibmepjbabnnabDoorRows.lean that lists a variable, with what it lists TIED to the program's text (the seventh form; the later family's looks); each row that meets fmt, with fmt's text TOLD by the authors' own Lean function (tested against real Go, not proved from fmt's source: count such statements apart). THE CARD IS WHAT COUNTS. Prove the row's statement (the work); the ties are given (YtdibmepjbabnnabDoorTie.lean); close each card by the builder's one call (the guide's Derived/Test/ToyasCard.lean, 'card_holds'). Laid BY PROGRAM, IN A SANDBOX (cutbox-door.mjs). By AI agents, Wed Nov 11 2026. No macro, syntax, notation, axiom, sorry.
-/
import Derived.Test.YtdibmepjbabnnabDoorRows
import GoSem.ClaimSeven
namespace Go.Proofs.YtdibmepjbabnnabDoor
namespace Rows

/-- THE TIED CARD OF 'laws.FnExactObjOk'. -/
def fnExactObjOkCard : Claim7 := { stood := { row := fnExactObjOkRow, standIns := [], harness := (true, "9f4e1f8a841fdee0e6ced75f7a5a627e76b6461e597d1aff33505e942d410638"), looks := true }, kinds := [], alts := [], laidByText := true, laidKinds := [.handle], laidTests := true, laidLooks := .later }
def FnExactObjOkCardSaid : Prop := Claim7.holds Tryd.pinned (.plain (OpenSpec.ofChange fnExactObjOkSpec)) fnExactObjOkCard

/-- THE TIED CARD OF 'laws.FnExactPutObj'. -/
def fnExactPutObjCard : Claim7 := { stood := { row := fnExactPutObjRow, standIns := [], harness := (true, "9f4e1f8a841fdee0e6ced75f7a5a627e76b6461e597d1aff33505e942d410638"), looks := true }, kinds := [], alts := [], laidByText := true, laidKinds := [.handle], laidTests := true, laidLooks := .later }
def FnExactPutObjCardSaid : Prop := Claim7.holds Tryd.pinned (.plain (OpenSpec.ofChange fnExactPutObjSpec)) fnExactPutObjCard

/-- THE SECOND FORM's CARD OF 'laws.FnExactObjOk'. -/
def fnExactObjOkUptoCard : Claim7 := { stood := { row := fnExactObjOkUptoRow, standIns := [], harness := (true, "9f4e1f8a841fdee0e6ced75f7a5a627e76b6461e597d1aff33505e942d410638"), looks := true }, kinds := [], alts := [], laidByText := true, laidKinds := [.handle], laidTests := true, laidLooks := .later }
def FnExactObjOkUptoCardSaid : Prop := Claim7.holds Tryd.pinned (.plain (OpenSpec.upto fnExactObjOkSpec)) fnExactObjOkUptoCard

/-- THE SECOND FORM's CARD OF 'laws.FnExactPutObj'. -/
def fnExactPutObjUptoCard : Claim7 := { stood := { row := fnExactPutObjUptoRow, standIns := [], harness := (true, "9f4e1f8a841fdee0e6ced75f7a5a627e76b6461e597d1aff33505e942d410638"), looks := true }, kinds := [], alts := [], laidByText := true, laidKinds := [.handle], laidTests := true, laidLooks := .later }
def FnExactPutObjUptoCardSaid : Prop := Claim7.holds Tryd.pinned (.plain (OpenSpec.upto fnExactPutObjSpec)) fnExactPutObjUptoCard
end Rows
end Go.Proofs.YtdibmepjbabnnabDoor
