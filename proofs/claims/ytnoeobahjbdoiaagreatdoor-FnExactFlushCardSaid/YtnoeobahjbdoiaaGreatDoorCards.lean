/-
  DERIVED. GIVEN WITH THE SEED: THE CARDS: each row of YtnoeobahjbdoiaaGreatDoorRows.lean that lists a variable, with what it lists TIED to the program's text (the seventh form; the later family's looks); each row that meets fmt, with fmt's text TOLD by the authors' own Lean function (tested against real Go, not proved from fmt's source: count such statements apart). THE CARD IS WHAT COUNTS. Prove the row's statement (the work); the ties are given (YtnoeobahjbdoiaaGreatDoorTie.lean); close each card by the builder's one call (the guide's Derived/Test/ToyasCard.lean, 'card_holds'). Laid BY PROGRAM, IN A SANDBOX (cutbox-door.mjs). By AI agents, Wed Nov 11 2026. No macro, syntax, notation, axiom, sorry.
-/
import Derived.Test.YtnoeobahjbdoiaaGreatDoorRows
import GoSem.ClaimSeven
namespace Go.Proofs.YtnoeobahjbdoiaaGreatDoor
namespace Rows

/-- THE TIED CARD OF 'laws.FnExactSet'. -/
def fnExactSetCard : Claim7 := { stood := { row := fnExactSetRow, standIns := [], harness := (true, "dad171fb8247141be40df363321c1cc211d83ad095ac960fd4cd66cf74751311"), looks := true }, kinds := [], alts := [], laidByText := true, laidKinds := [.handle], laidTests := true, laidLooks := .later }
def FnExactSetCardSaid : Prop := Claim7.holds Tryz.pinned (.plain (OpenSpec.ofChange fnExactSetSpec)) fnExactSetCard

/-- THE TIED CARD OF 'laws.FnExactGet'. -/
def fnExactGetCard : Claim7 := { stood := { row := fnExactGetRow, standIns := [], harness := (true, "dad171fb8247141be40df363321c1cc211d83ad095ac960fd4cd66cf74751311"), looks := true }, kinds := [], alts := [], laidByText := true, laidKinds := [.handle], laidTests := true, laidLooks := .later }
def FnExactGetCardSaid : Prop := Claim7.holds Tryz.pinned (.plain (OpenSpec.ofChange fnExactGetSpec)) fnExactGetCard

/-- THE TIED CARD OF 'laws.FnExactCommit'. -/
def fnExactCommitCard : Claim7 := { stood := { row := fnExactCommitRow, standIns := [], harness := (true, "dad171fb8247141be40df363321c1cc211d83ad095ac960fd4cd66cf74751311"), looks := true }, kinds := [], alts := [], laidByText := true, laidKinds := [.handle], laidTests := true, laidLooks := .later }
def FnExactCommitCardSaid : Prop := Claim7.holds Tryz.pinned (.plain (OpenSpec.ofChange fnExactCommitSpec)) fnExactCommitCard

/-- THE TIED CARD OF 'laws.FnExactFlush'. -/
def fnExactFlushCard : Claim7 := { stood := { row := fnExactFlushRow, standIns := [], harness := (true, "dad171fb8247141be40df363321c1cc211d83ad095ac960fd4cd66cf74751311"), looks := true }, kinds := [], alts := [], laidByText := true, laidKinds := [.handle], laidTests := true, laidLooks := .later }
def FnExactFlushCardSaid : Prop := Claim7.holds Tryz.pinned (.plain (OpenSpec.ofChange fnExactFlushSpec)) fnExactFlushCard

/-- THE TIED CARD OF 'laws.FnExactCheck'. -/
def fnExactCheckCard : Claim7 := { stood := { row := fnExactCheckRow, standIns := [], harness := (true, "dad171fb8247141be40df363321c1cc211d83ad095ac960fd4cd66cf74751311"), looks := true }, kinds := [], alts := [], laidByText := true, laidKinds := [.handle], laidTests := true, laidLooks := .later }
def FnExactCheckCardSaid : Prop := Claim7.holds Tryz.pinned (.plain (OpenSpec.ofChange fnExactCheckSpec)) fnExactCheckCard

/-- THE SECOND FORM's CARD OF 'laws.FnExactSet'. -/
def fnExactSetUptoCard : Claim7 := { stood := { row := fnExactSetUptoRow, standIns := [], harness := (true, "dad171fb8247141be40df363321c1cc211d83ad095ac960fd4cd66cf74751311"), looks := true }, kinds := [], alts := [], laidByText := true, laidKinds := [.handle], laidTests := true, laidLooks := .later }
def FnExactSetUptoCardSaid : Prop := Claim7.holds Tryz.pinned (.plain (OpenSpec.upto fnExactSetSpec)) fnExactSetUptoCard

/-- THE SECOND FORM's CARD OF 'laws.FnExactGet'. -/
def fnExactGetUptoCard : Claim7 := { stood := { row := fnExactGetUptoRow, standIns := [], harness := (true, "dad171fb8247141be40df363321c1cc211d83ad095ac960fd4cd66cf74751311"), looks := true }, kinds := [], alts := [], laidByText := true, laidKinds := [.handle], laidTests := true, laidLooks := .later }
def FnExactGetUptoCardSaid : Prop := Claim7.holds Tryz.pinned (.plain (OpenSpec.upto fnExactGetSpec)) fnExactGetUptoCard

/-- THE SECOND FORM's CARD OF 'laws.FnExactCommit'. -/
def fnExactCommitUptoCard : Claim7 := { stood := { row := fnExactCommitUptoRow, standIns := [], harness := (true, "dad171fb8247141be40df363321c1cc211d83ad095ac960fd4cd66cf74751311"), looks := true }, kinds := [], alts := [], laidByText := true, laidKinds := [.handle], laidTests := true, laidLooks := .later }
def FnExactCommitUptoCardSaid : Prop := Claim7.holds Tryz.pinned (.plain (OpenSpec.upto fnExactCommitSpec)) fnExactCommitUptoCard

/-- THE SECOND FORM's CARD OF 'laws.FnExactFlush'. -/
def fnExactFlushUptoCard : Claim7 := { stood := { row := fnExactFlushUptoRow, standIns := [], harness := (true, "dad171fb8247141be40df363321c1cc211d83ad095ac960fd4cd66cf74751311"), looks := true }, kinds := [], alts := [], laidByText := true, laidKinds := [.handle], laidTests := true, laidLooks := .later }
def FnExactFlushUptoCardSaid : Prop := Claim7.holds Tryz.pinned (.plain (OpenSpec.upto fnExactFlushSpec)) fnExactFlushUptoCard

/-- THE SECOND FORM's CARD OF 'laws.FnExactCheck'. -/
def fnExactCheckUptoCard : Claim7 := { stood := { row := fnExactCheckUptoRow, standIns := [], harness := (true, "dad171fb8247141be40df363321c1cc211d83ad095ac960fd4cd66cf74751311"), looks := true }, kinds := [], alts := [], laidByText := true, laidKinds := [.handle], laidTests := true, laidLooks := .later }
def FnExactCheckUptoCardSaid : Prop := Claim7.holds Tryz.pinned (.plain (OpenSpec.upto fnExactCheckSpec)) fnExactCheckUptoCard
end Rows
end Go.Proofs.YtnoeobahjbdoiaaGreatDoor
