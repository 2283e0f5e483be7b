/-
  DERIVED. GIVEN WITH THE SEED: THE CARDS: each row of YtekljhabjkmhpabDoorRows.lean that lists a variable, with what it lists TIED to the program's text (the seventh form; the later family's looks); each row that meets fmt, with fmt's text TOLD by the authors' own Lean function (tested against real Go, not proved from fmt's source: count such statements apart). THE CARD IS WHAT COUNTS. Prove the row's statement (the work); the ties are given (YtekljhabjkmhpabDoorTie.lean); close each card by the builder's one call (the guide's Derived/Test/ToyasCard.lean, 'card_holds'). Laid BY PROGRAM, IN A SANDBOX (cutbox-door.mjs). By AI agents, Wed Nov 11 2026. No macro, syntax, notation, axiom, sorry.
-/
import Derived.Test.YtekljhabjkmhpabDoorRows
import GoSem.ClaimSeven
namespace Go.Proofs.YtekljhabjkmhpabDoor
namespace Rows

/-- THE TIED CARD OF 'laws.FnExactAsk'. -/
def fnExactAskCard : Claim7 := { stood := { row := fnExactAskRow, standIns := [], harness := (true, "aaa2e9cd5b499032d337cade37eb36c418b43c6279c8fd3d076683242c65bf71"), looks := false }, kinds := [], alts := [], laidByText := true, laidKinds := [.data, .data], laidTests := true, laidLooks := .later }
def FnExactAskCardSaid : Prop := Claim7.holds Tryd.pinned (.plain (OpenSpec.ofChange fnExactAskSpec)) fnExactAskCard

/-- THE TIED CARD OF 'laws.FnExactDropAll'. -/
def fnExactDropAllCard : Claim7 := { stood := { row := fnExactDropAllRow, standIns := [], harness := (true, "aaa2e9cd5b499032d337cade37eb36c418b43c6279c8fd3d076683242c65bf71"), looks := false }, kinds := [], alts := [], laidByText := true, laidKinds := [.data, .data], laidTests := true, laidLooks := .later }
def FnExactDropAllCardSaid : Prop := Claim7.holds Tryd.pinned (.plain (OpenSpec.ofChange fnExactDropAllSpec)) fnExactDropAllCard

/-- THE TIED CARD OF 'laws.FnExactStuck'. -/
def fnExactStuckCard : Claim7 := { stood := { row := fnExactStuckRow, standIns := [], harness := (true, "aaa2e9cd5b499032d337cade37eb36c418b43c6279c8fd3d076683242c65bf71"), looks := false }, kinds := [], alts := [], laidByText := true, laidKinds := [.data, .data], laidTests := true, laidLooks := .later }
def FnExactStuckCardSaid : Prop := Claim7.holds Tryd.pinned (.plain (OpenSpec.ofChange fnExactStuckSpec)) fnExactStuckCard

/-- THE SECOND FORM's CARD OF 'laws.FnExactAsk'. -/
def fnExactAskUptoCard : Claim7 := { stood := { row := fnExactAskUptoRow, standIns := [], harness := (true, "aaa2e9cd5b499032d337cade37eb36c418b43c6279c8fd3d076683242c65bf71"), looks := false }, kinds := [], alts := [], laidByText := true, laidKinds := [.data, .data], laidTests := true, laidLooks := .later }
def FnExactAskUptoCardSaid : Prop := Claim7.holds Tryd.pinned (.plain (OpenSpec.upto fnExactAskSpec)) fnExactAskUptoCard

/-- THE SECOND FORM's CARD OF 'laws.FnExactDropAll'. -/
def fnExactDropAllUptoCard : Claim7 := { stood := { row := fnExactDropAllUptoRow, standIns := [], harness := (true, "aaa2e9cd5b499032d337cade37eb36c418b43c6279c8fd3d076683242c65bf71"), looks := false }, kinds := [], alts := [], laidByText := true, laidKinds := [.data, .data], laidTests := true, laidLooks := .later }
def FnExactDropAllUptoCardSaid : Prop := Claim7.holds Tryd.pinned (.plain (OpenSpec.upto fnExactDropAllSpec)) fnExactDropAllUptoCard

/-- THE SECOND FORM's CARD OF 'laws.FnExactStuck'. -/
def fnExactStuckUptoCard : Claim7 := { stood := { row := fnExactStuckUptoRow, standIns := [], harness := (true, "aaa2e9cd5b499032d337cade37eb36c418b43c6279c8fd3d076683242c65bf71"), looks := false }, kinds := [], alts := [], laidByText := true, laidKinds := [.data, .data], laidTests := true, laidLooks := .later }
def FnExactStuckUptoCardSaid : Prop := Claim7.holds Tryd.pinned (.plain (OpenSpec.upto fnExactStuckSpec)) fnExactStuckUptoCard
end Rows
end Go.Proofs.YtekljhabjkmhpabDoor
