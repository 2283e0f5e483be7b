/-
  For every engine and every number of an object the exact law of Get answers true, and the arguments read afterwards as before; the one condition: the package variable errors.errorType holds what the program's text lays (tied by the card).
-/
import Derived.Test.YtjkckhfddgeboaaGreatDoorRows
import Derived.Test.YtjkckhfddgeboaaGreatDoorTie
import Derived.Test.YtjkckhfddgeboaaGreatDoorCards
import Derived.Test.YtjkckhfddgeboaaGreatDoorPGetx25
import Derived.WalkKit
import Derived.ProofKit
import Derived.OpenShut
import Derived.ShutString
import Derived.ChangeOld
import Derived.Below
import Derived.SevenTiedAt
namespace Go.Proofs.YtjkckhfddgeboaaGreatDoor.fnExactGet
open Go.ChangeShapes Go.WideShapes Go.ChangeAt Go.RowKit
open Go.ChangeMaps (open_string shut_string)
set_option linter.unusedVariables false

set_option maxRecDepth 1000000 in
set_option maxHeartbeats 400000000 in
theorem proved : Rows.FnExactGetCardSaid :=
  Claim7.holds_tied_plain_at .later [] [.handle] true (true, "81155c0bedbd41b436a031adf051c136d310b283bf6399834462f73a4bb9aac4") true
    row_holds (fun _ h => by cases h) (by as_aux_lemma => kernel_rfl) (fun _ h => by cases h) fnExactGet_row_tie rfl ⟨rfl, rfl⟩ (by as_aux_lemma => kernel_rfl) rfl
    (fun f fn hf hfn => by
      obtain rfl : f = 6 := Option.some.inj ((show Tryz.prog.funcNamed "loop.example/g00181/laws.FnExactGet" = some 6 by as_aux_lemma => kernel_rfl).symm.trans hf) |>.symm;obtain rfl : fn = Tryz.f6 := (Option.some.inj (Tryz.func6.symm.trans hfn)).symm;exact ⟨by as_aux_lemma => kernel_rfl, fun j t ht => by
        rw [Tryz.params6] at ht;rcases j with _ | _ | j
        · have e : t = 77 := by simpa using ht.symm
          subst e;exact (show Tryz.prog.wantsStandIn 77 = false by as_aux_lemma => kernel_rfl)
        · have e : t = 3 := by simpa using ht.symm
          subst e;exact (show Tryz.prog.wantsStandIn 3 = false by as_aux_lemma => kernel_rfl)
        simp at ht⟩)
    (by as_aux_lemma => kernel_rfl)
end Go.Proofs.YtjkckhfddgeboaaGreatDoor.fnExactGet

namespace Go.Proofs.YtjkckhfddgeboaaGreatDoor
/-- The given statement, proved. -/
theorem FnExactGet_holds : Rows.FnExactGetCardSaid := fnExactGet.proved
end Go.Proofs.YtjkckhfddgeboaaGreatDoor
