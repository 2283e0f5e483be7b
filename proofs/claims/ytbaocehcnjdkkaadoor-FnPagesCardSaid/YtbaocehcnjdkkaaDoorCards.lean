/-
  DERIVED. GIVEN WITH THE SEED: THE CARDS: each row of YtbaocehcnjdkkaaDoorRows.lean that lists a variable, with what it lists TIED to the program's text (the seventh form; the later family's looks); each row that meets fmt, with fmt's text TOLD by the authors' own Lean function (tested against real Go, not proved from fmt's source: count such statements apart). THE CARD IS WHAT COUNTS. Prove the row's statement (the work); the ties are given (YtbaocehcnjdkkaaDoorTie.lean); close each card by the builder's one call (the guide's Derived/Test/ToyasCard.lean, 'card_holds'). Laid BY PROGRAM, IN A SANDBOX (cutbox-door.mjs). By AI agents, Wed Nov 11 2026. No macro, syntax, notation, axiom, sorry.
-/
import Derived.Test.YtbaocehcnjdkkaaDoorRows
import GoSem.ClaimSeven
namespace Go.Proofs.YtbaocehcnjdkkaaDoor
namespace Rows

/-- THE TIED CARD OF 'laws.FnPages'. -/
def fnPagesCard : Claim7 := { stood := { row := fnPagesRow, standIns := [], harness := (true, "94d5af691a24c195f5b3c2ab77fa77778d93e2e9b647081b53cd03ddc7330794"), looks := true }, kinds := [], alts := [], laidByText := true, laidKinds := [.handle], laidTests := true, laidLooks := .later }
def FnPagesCardSaid : Prop := Claim7.holds Tryd.pinned (.plain (OpenSpec.ofChange fnPagesSpec)) fnPagesCard

/-- THE TIED CARD OF 'laws.FnExactPageOk'. -/
def fnExactPageOkCard : Claim7 := { stood := { row := fnExactPageOkRow, standIns := [], harness := (true, "94d5af691a24c195f5b3c2ab77fa77778d93e2e9b647081b53cd03ddc7330794"), looks := true }, kinds := [], alts := [], laidByText := true, laidKinds := [.handle], laidTests := true, laidLooks := .later }
def FnExactPageOkCardSaid : Prop := Claim7.holds Tryd.pinned (.plain (OpenSpec.ofChange fnExactPageOkSpec)) fnExactPageOkCard

/-- THE TIED CARD OF 'laws.FnExactPutPage'. -/
def fnExactPutPageCard : Claim7 := { stood := { row := fnExactPutPageRow, standIns := [], harness := (true, "94d5af691a24c195f5b3c2ab77fa77778d93e2e9b647081b53cd03ddc7330794"), looks := true }, kinds := [], alts := [], laidByText := true, laidKinds := [.handle], laidTests := true, laidLooks := .later }
def FnExactPutPageCardSaid : Prop := Claim7.holds Tryd.pinned (.plain (OpenSpec.ofChange fnExactPutPageSpec)) fnExactPutPageCard

/-- THE TIED CARD OF 'laws.FnExactGetPage'. -/
def fnExactGetPageCard : Claim7 := { stood := { row := fnExactGetPageRow, standIns := [], harness := (true, "94d5af691a24c195f5b3c2ab77fa77778d93e2e9b647081b53cd03ddc7330794"), looks := true }, kinds := [], alts := [], laidByText := true, laidKinds := [.handle], laidTests := true, laidLooks := .later }
def FnExactGetPageCardSaid : Prop := Claim7.holds Tryd.pinned (.plain (OpenSpec.ofChange fnExactGetPageSpec)) fnExactGetPageCard

/-- THE TIED CARD OF 'laws.FnExactSetSlot'. -/
def fnExactSetSlotCard : Claim7 := { stood := { row := fnExactSetSlotRow, standIns := [], harness := (true, "94d5af691a24c195f5b3c2ab77fa77778d93e2e9b647081b53cd03ddc7330794"), looks := true }, kinds := [], alts := [], laidByText := true, laidKinds := [.handle], laidTests := true, laidLooks := .later }
def FnExactSetSlotCardSaid : Prop := Claim7.holds Tryd.pinned (.plain (OpenSpec.ofChange fnExactSetSlotSpec)) fnExactSetSlotCard

/-- THE SECOND FORM's CARD OF 'laws.FnPages'. -/
def fnPagesUptoCard : Claim7 := { stood := { row := fnPagesUptoRow, standIns := [], harness := (true, "94d5af691a24c195f5b3c2ab77fa77778d93e2e9b647081b53cd03ddc7330794"), looks := true }, kinds := [], alts := [], laidByText := true, laidKinds := [.handle], laidTests := true, laidLooks := .later }
def FnPagesUptoCardSaid : Prop := Claim7.holds Tryd.pinned (.plain (OpenSpec.upto fnPagesSpec)) fnPagesUptoCard

/-- THE SECOND FORM's CARD OF 'laws.FnExactPageOk'. -/
def fnExactPageOkUptoCard : Claim7 := { stood := { row := fnExactPageOkUptoRow, standIns := [], harness := (true, "94d5af691a24c195f5b3c2ab77fa77778d93e2e9b647081b53cd03ddc7330794"), looks := true }, kinds := [], alts := [], laidByText := true, laidKinds := [.handle], laidTests := true, laidLooks := .later }
def FnExactPageOkUptoCardSaid : Prop := Claim7.holds Tryd.pinned (.plain (OpenSpec.upto fnExactPageOkSpec)) fnExactPageOkUptoCard

/-- THE SECOND FORM's CARD OF 'laws.FnExactPutPage'. -/
def fnExactPutPageUptoCard : Claim7 := { stood := { row := fnExactPutPageUptoRow, standIns := [], harness := (true, "94d5af691a24c195f5b3c2ab77fa77778d93e2e9b647081b53cd03ddc7330794"), looks := true }, kinds := [], alts := [], laidByText := true, laidKinds := [.handle], laidTests := true, laidLooks := .later }
def FnExactPutPageUptoCardSaid : Prop := Claim7.holds Tryd.pinned (.plain (OpenSpec.upto fnExactPutPageSpec)) fnExactPutPageUptoCard

/-- THE SECOND FORM's CARD OF 'laws.FnExactGetPage'. -/
def fnExactGetPageUptoCard : Claim7 := { stood := { row := fnExactGetPageUptoRow, standIns := [], harness := (true, "94d5af691a24c195f5b3c2ab77fa77778d93e2e9b647081b53cd03ddc7330794"), looks := true }, kinds := [], alts := [], laidByText := true, laidKinds := [.handle], laidTests := true, laidLooks := .later }
def FnExactGetPageUptoCardSaid : Prop := Claim7.holds Tryd.pinned (.plain (OpenSpec.upto fnExactGetPageSpec)) fnExactGetPageUptoCard

/-- THE SECOND FORM's CARD OF 'laws.FnExactSetSlot'. -/
def fnExactSetSlotUptoCard : Claim7 := { stood := { row := fnExactSetSlotUptoRow, standIns := [], harness := (true, "94d5af691a24c195f5b3c2ab77fa77778d93e2e9b647081b53cd03ddc7330794"), looks := true }, kinds := [], alts := [], laidByText := true, laidKinds := [.handle], laidTests := true, laidLooks := .later }
def FnExactSetSlotUptoCardSaid : Prop := Claim7.holds Tryd.pinned (.plain (OpenSpec.upto fnExactSetSlotSpec)) fnExactSetSlotUptoCard
end Rows
end Go.Proofs.YtbaocehcnjdkkaaDoor
