/-
  DERIVED. GIVEN WITH THE SEED: THE CARDS: each row of YtjkckhfddgeboaaGreatDoorRows.lean that lists a variable, with what it lists TIED to the program's text (the seventh form; the later family's looks); each row that meets fmt, with fmt's text TOLD by the authors' own Lean function (tested against real Go, not proved from fmt's source: count such statements apart). THE CARD IS WHAT COUNTS. Prove the row's statement (the work); the ties are given (YtjkckhfddgeboaaGreatDoorTie.lean); close each card by the builder's one call (the guide's Derived/Test/ToyasCard.lean, 'card_holds'). Laid BY PROGRAM, IN A SANDBOX (cutbox-door.mjs). By AI agents, Wed Nov 11 2026. No macro, syntax, notation, axiom, sorry.
-/
import Derived.Test.YtjkckhfddgeboaaGreatDoorRows
import GoSem.ClaimSeven
namespace Go.Proofs.YtjkckhfddgeboaaGreatDoor
namespace Rows

/-- THE TIED CARD OF 'laws.FnInserted'. -/
def fnInsertedCard : Claim7 := { stood := { row := fnInsertedRow, standIns := [], harness := (true, "81155c0bedbd41b436a031adf051c136d310b283bf6399834462f73a4bb9aac4"), looks := true }, kinds := [], alts := [], laidByText := true, laidKinds := [.handle], laidTests := true, laidLooks := .later }
def FnInsertedCardSaid : Prop := Claim7.holds Tryz.pinned (.plain (OpenSpec.ofChange fnInsertedSpec)) fnInsertedCard

/-- THE TIED CARD OF 'laws.FnCollected'. -/
def fnCollectedCard : Claim7 := { stood := { row := fnCollectedRow, standIns := [], harness := (true, "81155c0bedbd41b436a031adf051c136d310b283bf6399834462f73a4bb9aac4"), looks := true }, kinds := [], alts := [], laidByText := true, laidKinds := [.handle], laidTests := true, laidLooks := .later }
def FnCollectedCardSaid : Prop := Claim7.holds Tryz.pinned (.plain (OpenSpec.ofChange fnCollectedSpec)) fnCollectedCard

/-- THE TIED CARD OF 'laws.FnExactSet'. -/
def fnExactSetCard : Claim7 := { stood := { row := fnExactSetRow, standIns := [], harness := (true, "81155c0bedbd41b436a031adf051c136d310b283bf6399834462f73a4bb9aac4"), looks := true }, kinds := [], alts := [], laidByText := true, laidKinds := [.handle], laidTests := true, laidLooks := .later }
def FnExactSetCardSaid : Prop := Claim7.holds Tryz.pinned (.plain (OpenSpec.ofChange fnExactSetSpec)) fnExactSetCard

/-- THE TIED CARD OF 'laws.FnExactGet'. -/
def fnExactGetCard : Claim7 := { stood := { row := fnExactGetRow, standIns := [], harness := (true, "81155c0bedbd41b436a031adf051c136d310b283bf6399834462f73a4bb9aac4"), looks := true }, kinds := [], alts := [], laidByText := true, laidKinds := [.handle], laidTests := true, laidLooks := .later }
def FnExactGetCardSaid : Prop := Claim7.holds Tryz.pinned (.plain (OpenSpec.ofChange fnExactGetSpec)) fnExactGetCard

/-- THE TIED CARD OF 'laws.FnExactInsert'. -/
def fnExactInsertCard : Claim7 := { stood := { row := fnExactInsertRow, standIns := [], harness := (true, "81155c0bedbd41b436a031adf051c136d310b283bf6399834462f73a4bb9aac4"), looks := true }, kinds := [], alts := [], laidByText := true, laidKinds := [.handle], laidTests := true, laidLooks := .later }
def FnExactInsertCardSaid : Prop := Claim7.holds Tryz.pinned (.plain (OpenSpec.ofChange fnExactInsertSpec)) fnExactInsertCard

/-- THE TIED CARD OF 'laws.FnExactCollect'. -/
def fnExactCollectCard : Claim7 := { stood := { row := fnExactCollectRow, standIns := [], harness := (true, "81155c0bedbd41b436a031adf051c136d310b283bf6399834462f73a4bb9aac4"), looks := true }, kinds := [], alts := [], laidByText := true, laidKinds := [.handle], laidTests := true, laidLooks := .later }
def FnExactCollectCardSaid : Prop := Claim7.holds Tryz.pinned (.plain (OpenSpec.ofChange fnExactCollectSpec)) fnExactCollectCard

/-- THE SECOND FORM's CARD OF 'laws.FnInserted'. -/
def fnInsertedUptoCard : Claim7 := { stood := { row := fnInsertedUptoRow, standIns := [], harness := (true, "81155c0bedbd41b436a031adf051c136d310b283bf6399834462f73a4bb9aac4"), looks := true }, kinds := [], alts := [], laidByText := true, laidKinds := [.handle], laidTests := true, laidLooks := .later }
def FnInsertedUptoCardSaid : Prop := Claim7.holds Tryz.pinned (.plain (OpenSpec.upto fnInsertedSpec)) fnInsertedUptoCard

/-- THE SECOND FORM's CARD OF 'laws.FnCollected'. -/
def fnCollectedUptoCard : Claim7 := { stood := { row := fnCollectedUptoRow, standIns := [], harness := (true, "81155c0bedbd41b436a031adf051c136d310b283bf6399834462f73a4bb9aac4"), looks := true }, kinds := [], alts := [], laidByText := true, laidKinds := [.handle], laidTests := true, laidLooks := .later }
def FnCollectedUptoCardSaid : Prop := Claim7.holds Tryz.pinned (.plain (OpenSpec.upto fnCollectedSpec)) fnCollectedUptoCard

/-- THE SECOND FORM's CARD OF 'laws.FnExactSet'. -/
def fnExactSetUptoCard : Claim7 := { stood := { row := fnExactSetUptoRow, standIns := [], harness := (true, "81155c0bedbd41b436a031adf051c136d310b283bf6399834462f73a4bb9aac4"), looks := true }, kinds := [], alts := [], laidByText := true, laidKinds := [.handle], laidTests := true, laidLooks := .later }
def FnExactSetUptoCardSaid : Prop := Claim7.holds Tryz.pinned (.plain (OpenSpec.upto fnExactSetSpec)) fnExactSetUptoCard

/-- THE SECOND FORM's CARD OF 'laws.FnExactGet'. -/
def fnExactGetUptoCard : Claim7 := { stood := { row := fnExactGetUptoRow, standIns := [], harness := (true, "81155c0bedbd41b436a031adf051c136d310b283bf6399834462f73a4bb9aac4"), looks := true }, kinds := [], alts := [], laidByText := true, laidKinds := [.handle], laidTests := true, laidLooks := .later }
def FnExactGetUptoCardSaid : Prop := Claim7.holds Tryz.pinned (.plain (OpenSpec.upto fnExactGetSpec)) fnExactGetUptoCard

/-- THE SECOND FORM's CARD OF 'laws.FnExactInsert'. -/
def fnExactInsertUptoCard : Claim7 := { stood := { row := fnExactInsertUptoRow, standIns := [], harness := (true, "81155c0bedbd41b436a031adf051c136d310b283bf6399834462f73a4bb9aac4"), looks := true }, kinds := [], alts := [], laidByText := true, laidKinds := [.handle], laidTests := true, laidLooks := .later }
def FnExactInsertUptoCardSaid : Prop := Claim7.holds Tryz.pinned (.plain (OpenSpec.upto fnExactInsertSpec)) fnExactInsertUptoCard

/-- THE SECOND FORM's CARD OF 'laws.FnExactCollect'. -/
def fnExactCollectUptoCard : Claim7 := { stood := { row := fnExactCollectUptoRow, standIns := [], harness := (true, "81155c0bedbd41b436a031adf051c136d310b283bf6399834462f73a4bb9aac4"), looks := true }, kinds := [], alts := [], laidByText := true, laidKinds := [.handle], laidTests := true, laidLooks := .later }
def FnExactCollectUptoCardSaid : Prop := Claim7.holds Tryz.pinned (.plain (OpenSpec.upto fnExactCollectSpec)) fnExactCollectUptoCard
end Rows
end Go.Proofs.YtjkckhfddgeboaaGreatDoor
