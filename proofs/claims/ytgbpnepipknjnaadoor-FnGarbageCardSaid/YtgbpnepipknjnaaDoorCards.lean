/-
  DERIVED. GIVEN WITH THE SEED: THE CARDS: each row of YtgbpnepipknjnaaDoorRows.lean that lists a variable, with what it lists TIED to the program's text (the seventh form; the later family's looks); each row that meets fmt, with fmt's text TOLD by the authors' own Lean function (tested against real Go, not proved from fmt's source: count such statements apart). THE CARD IS WHAT COUNTS. Prove the row's statement (the work); the ties are given (YtgbpnepipknjnaaDoorTie.lean); close each card by the builder's one call (the guide's Derived/Test/ToyasCard.lean, 'card_holds'). Laid BY PROGRAM, IN A SANDBOX (cutbox-door.mjs). By AI agents, Wed Nov 11 2026. No macro, syntax, notation, axiom, sorry.
-/
import Derived.Test.YtgbpnepipknjnaaDoorRows
import GoSem.ClaimSeven
namespace Go.Proofs.YtgbpnepipknjnaaDoor
namespace Rows

/-- THE TIED CARD OF 'laws.FnMarked'. -/
def fnMarkedCard : Claim7 := { stood := { row := fnMarkedRow, standIns := [], harness := (true, "cd8f74df21be2bb916fa82f67db5670cd32e068218b1c25d53bab771b5f4011b"), looks := true }, kinds := [], alts := [], laidByText := true, laidKinds := [.handle], laidTests := true, laidLooks := .later }
def FnMarkedCardSaid : Prop := Claim7.holds Tryd.pinned (.plain (OpenSpec.ofChange fnMarkedSpec)) fnMarkedCard

/-- THE TIED CARD OF 'laws.FnGarbage'. -/
def fnGarbageCard : Claim7 := { stood := { row := fnGarbageRow, standIns := [], harness := (true, "cd8f74df21be2bb916fa82f67db5670cd32e068218b1c25d53bab771b5f4011b"), looks := true }, kinds := [], alts := [], laidByText := true, laidKinds := [.handle], laidTests := true, laidLooks := .later }
def FnGarbageCardSaid : Prop := Claim7.holds Tryd.pinned (.plain (OpenSpec.ofChange fnGarbageSpec)) fnGarbageCard

/-- THE TIED CARD OF 'laws.FnExactViewOk'. -/
def fnExactViewOkCard : Claim7 := { stood := { row := fnExactViewOkRow, standIns := [], harness := (true, "cd8f74df21be2bb916fa82f67db5670cd32e068218b1c25d53bab771b5f4011b"), looks := true }, kinds := [], alts := [], laidByText := true, laidKinds := [.handle], laidTests := true, laidLooks := .later }
def FnExactViewOkCardSaid : Prop := Claim7.holds Tryd.pinned (.plain (OpenSpec.ofChange fnExactViewOkSpec)) fnExactViewOkCard

/-- THE TIED CARD OF 'laws.FnExactReach'. -/
def fnExactReachCard : Claim7 := { stood := { row := fnExactReachRow, standIns := [], harness := (true, "cd8f74df21be2bb916fa82f67db5670cd32e068218b1c25d53bab771b5f4011b"), looks := true }, kinds := [], alts := [], laidByText := true, laidKinds := [.handle], laidTests := true, laidLooks := .later }
def FnExactReachCardSaid : Prop := Claim7.holds Tryd.pinned (.plain (OpenSpec.ofChange fnExactReachSpec)) fnExactReachCard

/-- THE TIED CARD OF 'laws.FnExactMark'. -/
def fnExactMarkCard : Claim7 := { stood := { row := fnExactMarkRow, standIns := [], harness := (true, "cd8f74df21be2bb916fa82f67db5670cd32e068218b1c25d53bab771b5f4011b"), looks := true }, kinds := [], alts := [], laidByText := true, laidKinds := [.handle], laidTests := true, laidLooks := .later }
def FnExactMarkCardSaid : Prop := Claim7.holds Tryd.pinned (.plain (OpenSpec.ofChange fnExactMarkSpec)) fnExactMarkCard

/-- THE TIED CARD OF 'laws.FnExactGarbage'. -/
def fnExactGarbageCard : Claim7 := { stood := { row := fnExactGarbageRow, standIns := [], harness := (true, "cd8f74df21be2bb916fa82f67db5670cd32e068218b1c25d53bab771b5f4011b"), looks := true }, kinds := [], alts := [], laidByText := true, laidKinds := [.handle], laidTests := true, laidLooks := .later }
def FnExactGarbageCardSaid : Prop := Claim7.holds Tryd.pinned (.plain (OpenSpec.ofChange fnExactGarbageSpec)) fnExactGarbageCard

/-- THE SECOND FORM's CARD OF 'laws.FnMarked'. -/
def fnMarkedUptoCard : Claim7 := { stood := { row := fnMarkedUptoRow, standIns := [], harness := (true, "cd8f74df21be2bb916fa82f67db5670cd32e068218b1c25d53bab771b5f4011b"), looks := true }, kinds := [], alts := [], laidByText := true, laidKinds := [.handle], laidTests := true, laidLooks := .later }
def FnMarkedUptoCardSaid : Prop := Claim7.holds Tryd.pinned (.plain (OpenSpec.upto fnMarkedSpec)) fnMarkedUptoCard

/-- THE SECOND FORM's CARD OF 'laws.FnGarbage'. -/
def fnGarbageUptoCard : Claim7 := { stood := { row := fnGarbageUptoRow, standIns := [], harness := (true, "cd8f74df21be2bb916fa82f67db5670cd32e068218b1c25d53bab771b5f4011b"), looks := true }, kinds := [], alts := [], laidByText := true, laidKinds := [.handle], laidTests := true, laidLooks := .later }
def FnGarbageUptoCardSaid : Prop := Claim7.holds Tryd.pinned (.plain (OpenSpec.upto fnGarbageSpec)) fnGarbageUptoCard

/-- THE SECOND FORM's CARD OF 'laws.FnExactViewOk'. -/
def fnExactViewOkUptoCard : Claim7 := { stood := { row := fnExactViewOkUptoRow, standIns := [], harness := (true, "cd8f74df21be2bb916fa82f67db5670cd32e068218b1c25d53bab771b5f4011b"), looks := true }, kinds := [], alts := [], laidByText := true, laidKinds := [.handle], laidTests := true, laidLooks := .later }
def FnExactViewOkUptoCardSaid : Prop := Claim7.holds Tryd.pinned (.plain (OpenSpec.upto fnExactViewOkSpec)) fnExactViewOkUptoCard

/-- THE SECOND FORM's CARD OF 'laws.FnExactReach'. -/
def fnExactReachUptoCard : Claim7 := { stood := { row := fnExactReachUptoRow, standIns := [], harness := (true, "cd8f74df21be2bb916fa82f67db5670cd32e068218b1c25d53bab771b5f4011b"), looks := true }, kinds := [], alts := [], laidByText := true, laidKinds := [.handle], laidTests := true, laidLooks := .later }
def FnExactReachUptoCardSaid : Prop := Claim7.holds Tryd.pinned (.plain (OpenSpec.upto fnExactReachSpec)) fnExactReachUptoCard

/-- THE SECOND FORM's CARD OF 'laws.FnExactMark'. -/
def fnExactMarkUptoCard : Claim7 := { stood := { row := fnExactMarkUptoRow, standIns := [], harness := (true, "cd8f74df21be2bb916fa82f67db5670cd32e068218b1c25d53bab771b5f4011b"), looks := true }, kinds := [], alts := [], laidByText := true, laidKinds := [.handle], laidTests := true, laidLooks := .later }
def FnExactMarkUptoCardSaid : Prop := Claim7.holds Tryd.pinned (.plain (OpenSpec.upto fnExactMarkSpec)) fnExactMarkUptoCard

/-- THE SECOND FORM's CARD OF 'laws.FnExactGarbage'. -/
def fnExactGarbageUptoCard : Claim7 := { stood := { row := fnExactGarbageUptoRow, standIns := [], harness := (true, "cd8f74df21be2bb916fa82f67db5670cd32e068218b1c25d53bab771b5f4011b"), looks := true }, kinds := [], alts := [], laidByText := true, laidKinds := [.handle], laidTests := true, laidLooks := .later }
def FnExactGarbageUptoCardSaid : Prop := Claim7.holds Tryd.pinned (.plain (OpenSpec.upto fnExactGarbageSpec)) fnExactGarbageUptoCard
end Rows
end Go.Proofs.YtgbpnepipknjnaaDoor
