/-
  DERIVED. GIVEN WITH THE SEED: THE CARDS: each row of YtpgeemdjghkjiabGreatDoorRows.lean that lists a variable, with what it lists TIED to the program's text (the seventh form; the later family's looks); each row that meets fmt, with fmt's text TOLD by the authors' own Lean function (tested against real Go, not proved from fmt's source: count such statements apart). THE CARD IS WHAT COUNTS. Prove the row's statement (the work); the ties are given (YtpgeemdjghkjiabGreatDoorTie.lean); close each card by the builder's one call (the guide's Derived/Test/ToyasCard.lean, 'card_holds'). Laid BY PROGRAM, IN A SANDBOX (cutbox-door.mjs). By AI agents, Wed Nov 11 2026. No macro, syntax, notation, axiom, sorry.
-/
import Derived.Test.YtpgeemdjghkjiabGreatDoorRows
import GoSem.ClaimSeven
namespace Go.Proofs.YtpgeemdjghkjiabGreatDoor
namespace Rows

/-- THE TIED CARD OF 'laws.FnExactCheck'. -/
def fnExactCheckCard : Claim7 := { stood := { row := fnExactCheckRow, standIns := [], harness := (true, "1baaaa31f8c1a44969a2a2ee1dca5d2ca6f0ab9afe4c62bb4cc60b6822d1d227"), looks := true }, kinds := [], alts := [], laidByText := true, laidKinds := [.handle], laidTests := true, laidLooks := .later }
def FnExactCheckCardSaid : Prop := Claim7.holds Tryz.pinned (.plain (OpenSpec.ofChange fnExactCheckSpec)) fnExactCheckCard

/-- THE TIED CARD OF 'laws.FnExactCrash'. -/
def fnExactCrashCard : Claim7 := { stood := { row := fnExactCrashRow, standIns := [], harness := (true, "1baaaa31f8c1a44969a2a2ee1dca5d2ca6f0ab9afe4c62bb4cc60b6822d1d227"), looks := true }, kinds := [], alts := [], laidByText := true, laidKinds := [.handle], laidTests := true, laidLooks := .later }
def FnExactCrashCardSaid : Prop := Claim7.holds Tryz.pinned (.plain (OpenSpec.ofChange fnExactCrashSpec)) fnExactCrashCard

/-- THE TIED CARD OF 'laws.FnExactRestart'. -/
def fnExactRestartCard : Claim7 := { stood := { row := fnExactRestartRow, standIns := [], harness := (true, "1baaaa31f8c1a44969a2a2ee1dca5d2ca6f0ab9afe4c62bb4cc60b6822d1d227"), looks := true }, kinds := [], alts := [], laidByText := true, laidKinds := [.handle], laidTests := true, laidLooks := .later }
def FnExactRestartCardSaid : Prop := Claim7.holds Tryz.pinned (.plain (OpenSpec.ofChange fnExactRestartSpec)) fnExactRestartCard

/-- THE SECOND FORM's CARD OF 'laws.FnExactCheck'. -/
def fnExactCheckUptoCard : Claim7 := { stood := { row := fnExactCheckUptoRow, standIns := [], harness := (true, "1baaaa31f8c1a44969a2a2ee1dca5d2ca6f0ab9afe4c62bb4cc60b6822d1d227"), looks := true }, kinds := [], alts := [], laidByText := true, laidKinds := [.handle], laidTests := true, laidLooks := .later }
def FnExactCheckUptoCardSaid : Prop := Claim7.holds Tryz.pinned (.plain (OpenSpec.upto fnExactCheckSpec)) fnExactCheckUptoCard

/-- THE SECOND FORM's CARD OF 'laws.FnExactCrash'. -/
def fnExactCrashUptoCard : Claim7 := { stood := { row := fnExactCrashUptoRow, standIns := [], harness := (true, "1baaaa31f8c1a44969a2a2ee1dca5d2ca6f0ab9afe4c62bb4cc60b6822d1d227"), looks := true }, kinds := [], alts := [], laidByText := true, laidKinds := [.handle], laidTests := true, laidLooks := .later }
def FnExactCrashUptoCardSaid : Prop := Claim7.holds Tryz.pinned (.plain (OpenSpec.upto fnExactCrashSpec)) fnExactCrashUptoCard

/-- THE SECOND FORM's CARD OF 'laws.FnExactRestart'. -/
def fnExactRestartUptoCard : Claim7 := { stood := { row := fnExactRestartUptoRow, standIns := [], harness := (true, "1baaaa31f8c1a44969a2a2ee1dca5d2ca6f0ab9afe4c62bb4cc60b6822d1d227"), looks := true }, kinds := [], alts := [], laidByText := true, laidKinds := [.handle], laidTests := true, laidLooks := .later }
def FnExactRestartUptoCardSaid : Prop := Claim7.holds Tryz.pinned (.plain (OpenSpec.upto fnExactRestartSpec)) fnExactRestartUptoCard
end Rows
end Go.Proofs.YtpgeemdjghkjiabGreatDoor
