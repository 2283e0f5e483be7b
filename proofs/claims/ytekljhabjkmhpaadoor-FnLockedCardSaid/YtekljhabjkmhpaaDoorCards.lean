/-
  DERIVED. GIVEN WITH THE SEED: THE CARDS: each row of YtekljhabjkmhpaaDoorRows.lean that lists a variable, with what it lists TIED to the program's text (the seventh form; the later family's looks); each row that meets fmt, with fmt's text TOLD by the authors' own Lean function (tested against real Go, not proved from fmt's source: count such statements apart). THE CARD IS WHAT COUNTS. Prove the row's statement (the work); the ties are given (YtekljhabjkmhpaaDoorTie.lean); close each card by the builder's one call (the guide's Derived/Test/ToyasCard.lean, 'card_holds'). Laid BY PROGRAM, IN A SANDBOX (cutbox-door.mjs). By AI agents, Wed Nov 11 2026. No macro, syntax, notation, axiom, sorry.
-/
import Derived.Test.YtekljhabjkmhpaaDoorRows
import GoSem.ClaimSeven
namespace Go.Proofs.YtekljhabjkmhpaaDoor
namespace Rows

/-- THE TIED CARD OF 'laws.FnModes'. -/
def fnModesCard : Claim7 := { stood := { row := fnModesRow, standIns := [], harness := (true, "b700878b2d58fcead48d1e584c541cbf6220a1d63b891bb1fbabc58f0867ecdc"), looks := false }, kinds := [], alts := [], laidByText := true, laidKinds := [.data, .data], laidTests := true, laidLooks := .later }
def FnModesCardSaid : Prop := Claim7.holds Tryd.pinned (.plain (OpenSpec.ofChange fnModesSpec)) fnModesCard

/-- THE TIED CARD OF 'laws.FnLocked'. -/
def fnLockedCard : Claim7 := { stood := { row := fnLockedRow, standIns := [], harness := (true, "b700878b2d58fcead48d1e584c541cbf6220a1d63b891bb1fbabc58f0867ecdc"), looks := false }, kinds := [], alts := [], laidByText := true, laidKinds := [.data, .data], laidTests := true, laidLooks := .later }
def FnLockedCardSaid : Prop := Claim7.holds Tryd.pinned (.plain (OpenSpec.ofChange fnLockedSpec)) fnLockedCard

/-- THE TIED CARD OF 'laws.FnDropped'. -/
def fnDroppedCard : Claim7 := { stood := { row := fnDroppedRow, standIns := [], harness := (true, "b700878b2d58fcead48d1e584c541cbf6220a1d63b891bb1fbabc58f0867ecdc"), looks := false }, kinds := [], alts := [], laidByText := true, laidKinds := [.data, .data], laidTests := true, laidLooks := .later }
def FnDroppedCardSaid : Prop := Claim7.holds Tryd.pinned (.plain (OpenSpec.ofChange fnDroppedSpec)) fnDroppedCard

/-- THE TIED CARD OF 'laws.FnExactGoes'. -/
def fnExactGoesCard : Claim7 := { stood := { row := fnExactGoesRow, standIns := [], harness := (true, "b700878b2d58fcead48d1e584c541cbf6220a1d63b891bb1fbabc58f0867ecdc"), looks := false }, kinds := [], alts := [], laidByText := true, laidKinds := [.data], laidTests := true, laidLooks := .later }
def FnExactGoesCardSaid : Prop := Claim7.holds Tryd.pinned (.plain (OpenSpec.ofChange fnExactGoesSpec)) fnExactGoesCard

/-- THE TIED CARD OF 'laws.FnExactBoth'. -/
def fnExactBothCard : Claim7 := { stood := { row := fnExactBothRow, standIns := [], harness := (true, "b700878b2d58fcead48d1e584c541cbf6220a1d63b891bb1fbabc58f0867ecdc"), looks := false }, kinds := [], alts := [], laidByText := true, laidKinds := [.data], laidTests := true, laidLooks := .later }
def FnExactBothCardSaid : Prop := Claim7.holds Tryd.pinned (.plain (OpenSpec.ofChange fnExactBothSpec)) fnExactBothCard

/-- THE TIED CARD OF 'laws.FnExactLocksOk'. -/
def fnExactLocksOkCard : Claim7 := { stood := { row := fnExactLocksOkRow, standIns := [], harness := (true, "b700878b2d58fcead48d1e584c541cbf6220a1d63b891bb1fbabc58f0867ecdc"), looks := false }, kinds := [], alts := [], laidByText := true, laidKinds := [.data], laidTests := true, laidLooks := .later }
def FnExactLocksOkCardSaid : Prop := Claim7.holds Tryd.pinned (.plain (OpenSpec.ofChange fnExactLocksOkSpec)) fnExactLocksOkCard

/-- THE SECOND FORM's CARD OF 'laws.FnModes'. -/
def fnModesUptoCard : Claim7 := { stood := { row := fnModesUptoRow, standIns := [], harness := (true, "b700878b2d58fcead48d1e584c541cbf6220a1d63b891bb1fbabc58f0867ecdc"), looks := false }, kinds := [], alts := [], laidByText := true, laidKinds := [.data, .data], laidTests := true, laidLooks := .later }
def FnModesUptoCardSaid : Prop := Claim7.holds Tryd.pinned (.plain (OpenSpec.upto fnModesSpec)) fnModesUptoCard

/-- THE SECOND FORM's CARD OF 'laws.FnLocked'. -/
def fnLockedUptoCard : Claim7 := { stood := { row := fnLockedUptoRow, standIns := [], harness := (true, "b700878b2d58fcead48d1e584c541cbf6220a1d63b891bb1fbabc58f0867ecdc"), looks := false }, kinds := [], alts := [], laidByText := true, laidKinds := [.data, .data], laidTests := true, laidLooks := .later }
def FnLockedUptoCardSaid : Prop := Claim7.holds Tryd.pinned (.plain (OpenSpec.upto fnLockedSpec)) fnLockedUptoCard

/-- THE SECOND FORM's CARD OF 'laws.FnDropped'. -/
def fnDroppedUptoCard : Claim7 := { stood := { row := fnDroppedUptoRow, standIns := [], harness := (true, "b700878b2d58fcead48d1e584c541cbf6220a1d63b891bb1fbabc58f0867ecdc"), looks := false }, kinds := [], alts := [], laidByText := true, laidKinds := [.data, .data], laidTests := true, laidLooks := .later }
def FnDroppedUptoCardSaid : Prop := Claim7.holds Tryd.pinned (.plain (OpenSpec.upto fnDroppedSpec)) fnDroppedUptoCard

/-- THE SECOND FORM's CARD OF 'laws.FnExactGoes'. -/
def fnExactGoesUptoCard : Claim7 := { stood := { row := fnExactGoesUptoRow, standIns := [], harness := (true, "b700878b2d58fcead48d1e584c541cbf6220a1d63b891bb1fbabc58f0867ecdc"), looks := false }, kinds := [], alts := [], laidByText := true, laidKinds := [.data], laidTests := true, laidLooks := .later }
def FnExactGoesUptoCardSaid : Prop := Claim7.holds Tryd.pinned (.plain (OpenSpec.upto fnExactGoesSpec)) fnExactGoesUptoCard

/-- THE SECOND FORM's CARD OF 'laws.FnExactBoth'. -/
def fnExactBothUptoCard : Claim7 := { stood := { row := fnExactBothUptoRow, standIns := [], harness := (true, "b700878b2d58fcead48d1e584c541cbf6220a1d63b891bb1fbabc58f0867ecdc"), looks := false }, kinds := [], alts := [], laidByText := true, laidKinds := [.data], laidTests := true, laidLooks := .later }
def FnExactBothUptoCardSaid : Prop := Claim7.holds Tryd.pinned (.plain (OpenSpec.upto fnExactBothSpec)) fnExactBothUptoCard

/-- THE SECOND FORM's CARD OF 'laws.FnExactLocksOk'. -/
def fnExactLocksOkUptoCard : Claim7 := { stood := { row := fnExactLocksOkUptoRow, standIns := [], harness := (true, "b700878b2d58fcead48d1e584c541cbf6220a1d63b891bb1fbabc58f0867ecdc"), looks := false }, kinds := [], alts := [], laidByText := true, laidKinds := [.data], laidTests := true, laidLooks := .later }
def FnExactLocksOkUptoCardSaid : Prop := Claim7.holds Tryd.pinned (.plain (OpenSpec.upto fnExactLocksOkSpec)) fnExactLocksOkUptoCard
end Rows
end Go.Proofs.YtekljhabjkmhpaaDoor
