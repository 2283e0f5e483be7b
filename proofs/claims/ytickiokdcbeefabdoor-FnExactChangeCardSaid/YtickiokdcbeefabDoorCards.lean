/-
  DERIVED. GIVEN WITH THE SEED: THE CARDS: each row of YtickiokdcbeefabDoorRows.lean that lists a variable, with what it lists TIED to the program's text (the seventh form; the later family's looks); each row that meets fmt, with fmt's text TOLD by the authors' own Lean function (tested against real Go, not proved from fmt's source: count such statements apart). THE CARD IS WHAT COUNTS. Prove the row's statement (the work); the ties are given (YtickiokdcbeefabDoorTie.lean); close each card by the builder's one call (the guide's Derived/Test/ToyasCard.lean, 'card_holds'). Laid BY PROGRAM, IN A SANDBOX (cutbox-door.mjs). By AI agents, Wed Nov 11 2026. No macro, syntax, notation, axiom, sorry.
-/
import Derived.Test.YtickiokdcbeefabDoorRows
import GoSem.ClaimSeven
namespace Go.Proofs.YtickiokdcbeefabDoor
namespace Rows

/-- THE TIED CARD OF 'laws.FnExactVictim'. -/
def fnExactVictimCard : Claim7 := { stood := { row := fnExactVictimRow, standIns := [], harness := (true, "f6f95e78153771c82eeeffe0636da566c4831dc835046385d8e479eea25d79e0"), looks := true }, kinds := [], alts := [], laidByText := true, laidKinds := [.handle], laidTests := true, laidLooks := .later }
def FnExactVictimCardSaid : Prop := Claim7.holds Tryd.pinned (.plain (OpenSpec.ofChange fnExactVictimSpec)) fnExactVictimCard

/-- THE TIED CARD OF 'laws.FnExactBring'. -/
def fnExactBringCard : Claim7 := { stood := { row := fnExactBringRow, standIns := [], harness := (true, "f6f95e78153771c82eeeffe0636da566c4831dc835046385d8e479eea25d79e0"), looks := true }, kinds := [], alts := [], laidByText := true, laidKinds := [.handle], laidTests := true, laidLooks := .later }
def FnExactBringCardSaid : Prop := Claim7.holds Tryd.pinned (.plain (OpenSpec.ofChange fnExactBringSpec)) fnExactBringCard

/-- THE TIED CARD OF 'laws.FnExactChange'. -/
def fnExactChangeCard : Claim7 := { stood := { row := fnExactChangeRow, standIns := [], harness := (true, "f6f95e78153771c82eeeffe0636da566c4831dc835046385d8e479eea25d79e0"), looks := true }, kinds := [], alts := [], laidByText := true, laidKinds := [.handle], laidTests := true, laidLooks := .later }
def FnExactChangeCardSaid : Prop := Claim7.holds Tryd.pinned (.plain (OpenSpec.ofChange fnExactChangeSpec)) fnExactChangeCard

/-- THE SECOND FORM's CARD OF 'laws.FnExactVictim'. -/
def fnExactVictimUptoCard : Claim7 := { stood := { row := fnExactVictimUptoRow, standIns := [], harness := (true, "f6f95e78153771c82eeeffe0636da566c4831dc835046385d8e479eea25d79e0"), looks := true }, kinds := [], alts := [], laidByText := true, laidKinds := [.handle], laidTests := true, laidLooks := .later }
def FnExactVictimUptoCardSaid : Prop := Claim7.holds Tryd.pinned (.plain (OpenSpec.upto fnExactVictimSpec)) fnExactVictimUptoCard

/-- THE SECOND FORM's CARD OF 'laws.FnExactBring'. -/
def fnExactBringUptoCard : Claim7 := { stood := { row := fnExactBringUptoRow, standIns := [], harness := (true, "f6f95e78153771c82eeeffe0636da566c4831dc835046385d8e479eea25d79e0"), looks := true }, kinds := [], alts := [], laidByText := true, laidKinds := [.handle], laidTests := true, laidLooks := .later }
def FnExactBringUptoCardSaid : Prop := Claim7.holds Tryd.pinned (.plain (OpenSpec.upto fnExactBringSpec)) fnExactBringUptoCard

/-- THE SECOND FORM's CARD OF 'laws.FnExactChange'. -/
def fnExactChangeUptoCard : Claim7 := { stood := { row := fnExactChangeUptoRow, standIns := [], harness := (true, "f6f95e78153771c82eeeffe0636da566c4831dc835046385d8e479eea25d79e0"), looks := true }, kinds := [], alts := [], laidByText := true, laidKinds := [.handle], laidTests := true, laidLooks := .later }
def FnExactChangeUptoCardSaid : Prop := Claim7.holds Tryd.pinned (.plain (OpenSpec.upto fnExactChangeSpec)) fnExactChangeUptoCard
end Rows
end Go.Proofs.YtickiokdcbeefabDoor
