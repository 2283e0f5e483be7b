/-
  DERIVED. GIVEN WITH THE SEED: THE CARDS: each row of YtbpdocjkhmiimabGreatDoorRows.lean that lists a variable, with what it lists TIED to the program's text (the seventh form; the later family's looks); each row that meets fmt, with fmt's text TOLD by the authors' own Lean function (tested against real Go, not proved from fmt's source: count such statements apart). THE CARD IS WHAT COUNTS. Prove the row's statement (the work); the ties are given (YtbpdocjkhmiimabGreatDoorTie.lean); close each card by the builder's one call (the guide's Derived/Test/ToyasCard.lean, 'card_holds'). Laid BY PROGRAM, IN A SANDBOX (cutbox-door.mjs). By AI agents, Wed Nov 11 2026. No macro, syntax, notation, axiom, sorry.
-/
import Derived.Test.YtbpdocjkhmiimabGreatDoorRows
import GoSem.ClaimSeven
namespace Go.Proofs.YtbpdocjkhmiimabGreatDoor
namespace Rows

/-- THE TIED CARD OF 'laws.FnExactTear'. -/
def fnExactTearCard : Claim7 := { stood := { row := fnExactTearRow, standIns := [], harness := (true, "b1260af934968da5ee268d7ed8791c0ec163a31148ea5a9fcb5ca92c9fa8bd0b"), looks := true }, kinds := [], alts := [], laidByText := true, laidKinds := [.handle], laidTests := true, laidLooks := .later }
def FnExactTearCardSaid : Prop := Claim7.holds Tryz.pinned (.plain (OpenSpec.ofChange fnExactTearSpec)) fnExactTearCard

/-- THE TIED CARD OF 'laws.FnExactLogBytes'. -/
def fnExactLogBytesCard : Claim7 := { stood := { row := fnExactLogBytesRow, standIns := [], harness := (true, "b1260af934968da5ee268d7ed8791c0ec163a31148ea5a9fcb5ca92c9fa8bd0b"), looks := true }, kinds := [], alts := [], laidByText := true, laidKinds := [.handle], laidTests := true, laidLooks := .later }
def FnExactLogBytesCardSaid : Prop := Claim7.holds Tryz.pinned (.plain (OpenSpec.ofChange fnExactLogBytesSpec)) fnExactLogBytesCard

/-- THE TIED CARD OF 'laws.FnExactReadLog'. -/
def fnExactReadLogCard : Claim7 := { stood := { row := fnExactReadLogRow, standIns := [], harness := (true, "b1260af934968da5ee268d7ed8791c0ec163a31148ea5a9fcb5ca92c9fa8bd0b"), looks := true }, kinds := [], alts := [], laidByText := true, laidKinds := [.handle], laidTests := true, laidLooks := .later }
def FnExactReadLogCardSaid : Prop := Claim7.holds Tryz.pinned (.plain (OpenSpec.ofChange fnExactReadLogSpec)) fnExactReadLogCard

/-- THE SECOND FORM's CARD OF 'laws.FnExactTear'. -/
def fnExactTearUptoCard : Claim7 := { stood := { row := fnExactTearUptoRow, standIns := [], harness := (true, "b1260af934968da5ee268d7ed8791c0ec163a31148ea5a9fcb5ca92c9fa8bd0b"), looks := true }, kinds := [], alts := [], laidByText := true, laidKinds := [.handle], laidTests := true, laidLooks := .later }
def FnExactTearUptoCardSaid : Prop := Claim7.holds Tryz.pinned (.plain (OpenSpec.upto fnExactTearSpec)) fnExactTearUptoCard

/-- THE SECOND FORM's CARD OF 'laws.FnExactLogBytes'. -/
def fnExactLogBytesUptoCard : Claim7 := { stood := { row := fnExactLogBytesUptoRow, standIns := [], harness := (true, "b1260af934968da5ee268d7ed8791c0ec163a31148ea5a9fcb5ca92c9fa8bd0b"), looks := true }, kinds := [], alts := [], laidByText := true, laidKinds := [.handle], laidTests := true, laidLooks := .later }
def FnExactLogBytesUptoCardSaid : Prop := Claim7.holds Tryz.pinned (.plain (OpenSpec.upto fnExactLogBytesSpec)) fnExactLogBytesUptoCard

/-- THE SECOND FORM's CARD OF 'laws.FnExactReadLog'. -/
def fnExactReadLogUptoCard : Claim7 := { stood := { row := fnExactReadLogUptoRow, standIns := [], harness := (true, "b1260af934968da5ee268d7ed8791c0ec163a31148ea5a9fcb5ca92c9fa8bd0b"), looks := true }, kinds := [], alts := [], laidByText := true, laidKinds := [.handle], laidTests := true, laidLooks := .later }
def FnExactReadLogUptoCardSaid : Prop := Claim7.holds Tryz.pinned (.plain (OpenSpec.upto fnExactReadLogSpec)) fnExactReadLogUptoCard
end Rows
end Go.Proofs.YtbpdocjkhmiimabGreatDoor
