/-
  DERIVED. GIVEN WITH THE SEED: THE CARDS: each row of YtdibmepjbabnnacDoorRows.lean that lists a variable, with what it lists TIED to the program's text (the seventh form; the later family's looks); each row that meets fmt, with fmt's text TOLD by the authors' own Lean function (tested against real Go, not proved from fmt's source: count such statements apart). THE CARD IS WHAT COUNTS. Prove the row's statement (the work); the ties are given (YtdibmepjbabnnacDoorTie.lean); close each card by the builder's one call (the guide's Derived/Test/ToyasCard.lean, 'card_holds'). Laid BY PROGRAM, IN A SANDBOX (cutbox-door.mjs). By AI agents, Wed Nov 11 2026. No macro, syntax, notation, axiom, sorry.
-/
import Derived.Test.YtdibmepjbabnnacDoorRows
import GoSem.ClaimSeven
namespace Go.Proofs.YtdibmepjbabnnacDoor
namespace Rows

/-- THE TIED CARD OF 'laws.FnExactGetObj'. -/
def fnExactGetObjCard : Claim7 := { stood := { row := fnExactGetObjRow, standIns := [], harness := (true, "d0d58e9c720dbd32afd573dbcd8a4bc0114a4e41d0f11b1220b86736f289d961"), looks := true }, kinds := [], alts := [], laidByText := true, laidKinds := [.handle], laidTests := true, laidLooks := .later }
def FnExactGetObjCardSaid : Prop := Claim7.holds Tryd.pinned (.plain (OpenSpec.ofChange fnExactGetObjSpec)) fnExactGetObjCard

/-- THE TIED CARD OF 'laws.FnExactObjText'. -/
def fnExactObjTextCard : Claim7 := { stood := { row := fnExactObjTextRow, standIns := [], harness := (true, "d0d58e9c720dbd32afd573dbcd8a4bc0114a4e41d0f11b1220b86736f289d961"), looks := true }, kinds := [], alts := [], laidByText := true, laidKinds := [.data, .data, .data, .handle], laidTests := true, laidLooks := .later }
def FnExactObjTextCardSaid : Prop := Claim7.holds Tryd.pinned (.plain (OpenSpec.ofChange fnExactObjTextSpec)) fnExactObjTextCard

/-- THE TIED CARD OF 'laws.FnExactParseObj'. -/
def fnExactParseObjCard : Claim7 := { stood := { row := fnExactParseObjRow, standIns := [], harness := (true, "d0d58e9c720dbd32afd573dbcd8a4bc0114a4e41d0f11b1220b86736f289d961"), looks := true }, kinds := [], alts := [], laidByText := true, laidKinds := [.data, .data, .data, .data, .handle, .sentinel, .sentinel, .pinned], laidTests := true, laidLooks := .later }
def FnExactParseObjCardSaid : Prop := Claim7.holds Tryd.pinned (.plain (OpenSpec.ofChange fnExactParseObjSpec)) fnExactParseObjCard

/-- THE SECOND FORM's CARD OF 'laws.FnExactGetObj'. -/
def fnExactGetObjUptoCard : Claim7 := { stood := { row := fnExactGetObjUptoRow, standIns := [], harness := (true, "d0d58e9c720dbd32afd573dbcd8a4bc0114a4e41d0f11b1220b86736f289d961"), looks := true }, kinds := [], alts := [], laidByText := true, laidKinds := [.handle], laidTests := true, laidLooks := .later }
def FnExactGetObjUptoCardSaid : Prop := Claim7.holds Tryd.pinned (.plain (OpenSpec.upto fnExactGetObjSpec)) fnExactGetObjUptoCard

/-- THE SECOND FORM's CARD OF 'laws.FnExactObjText'. -/
def fnExactObjTextUptoCard : Claim7 := { stood := { row := fnExactObjTextUptoRow, standIns := [], harness := (true, "d0d58e9c720dbd32afd573dbcd8a4bc0114a4e41d0f11b1220b86736f289d961"), looks := true }, kinds := [], alts := [], laidByText := true, laidKinds := [.data, .data, .data, .handle], laidTests := true, laidLooks := .later }
def FnExactObjTextUptoCardSaid : Prop := Claim7.holds Tryd.pinned (.plain (OpenSpec.upto fnExactObjTextSpec)) fnExactObjTextUptoCard

/-- THE SECOND FORM's CARD OF 'laws.FnExactParseObj'. -/
def fnExactParseObjUptoCard : Claim7 := { stood := { row := fnExactParseObjUptoRow, standIns := [], harness := (true, "d0d58e9c720dbd32afd573dbcd8a4bc0114a4e41d0f11b1220b86736f289d961"), looks := true }, kinds := [], alts := [], laidByText := true, laidKinds := [.data, .data, .data, .data, .handle, .sentinel, .sentinel, .pinned], laidTests := true, laidLooks := .later }
def FnExactParseObjUptoCardSaid : Prop := Claim7.holds Tryd.pinned (.plain (OpenSpec.upto fnExactParseObjSpec)) fnExactParseObjUptoCard
end Rows
end Go.Proofs.YtdibmepjbabnnacDoor
