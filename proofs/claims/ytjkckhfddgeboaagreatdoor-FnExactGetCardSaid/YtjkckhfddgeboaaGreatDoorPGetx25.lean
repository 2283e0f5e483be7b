/-
  For every engine and every number of an object the exact law of Get answers true, and the arguments read afterwards as before; the one condition: the package variable errors.errorType holds what the program's text lays (tied by the card).
-/
import Derived.Test.YtjkckhfddgeboaaGreatDoorRows
import Derived.Test.YtjkckhfddgeboaaGreatDoorTie
import Derived.Test.YtjkckhfddgeboaaGreatDoorCards
import Derived.Test.YtjkckhfddgeboaaGreatDoorPGetx24
import Derived.WalkKit
import Derived.ProofKit
import Derived.OpenShut
import Derived.ShutString
import Derived.ChangeOld
import Derived.Below
import Derived.SevenTiedAt
namespace Go.Proofs.YtjkckhfddgeboaaGreatDoor.fnExactGet
open Go.ChangeShapes Go.WideShapes Go.ChangeAt Go.RowKit
open Go.ChangeMaps (open_string shut_string)
set_option linter.unusedVariables false

set_option maxRecDepth 1000000 in
set_option maxHeartbeats 400000000 in
theorem row_holds : Rows.FnExactGetSaid :=
  OpenClaim.holds_of_wide 6 Tryz.f6 (by as_aux_lemma => rfl) (by as_aux_lemma => rfl) (by as_aux_lemma => rfl) (by as_aux_lemma => rfl) (by as_aux_lemma => rfl) (by as_aux_lemma => rfl) (by as_aux_lemma => rfl) ⟨rfl, rfl, rfl, rfl, rfl⟩ (by as_aux_lemma => rfl) (by as_aux_lemma => rfl) (by as_aux_lemma => rfl) (by as_aux_lemma => rfl) (by as_aux_lemma => rfl) (by as_aux_lemma => kernel_rfl) Tryz.func6 (by
    unfold joinedFacts
    repeat' (with_reducible refine Bool.and_eq_true_iff.2 ⟨?_, ?_⟩)
    all_goals (as_aux_lemma => kernel_rfl))
    (of_decide_eq_true (by as_aux_lemma => kernel_rfl)) (by as_aux_lemma => (unfold Func.isWrapper; first | (rw [if_pos (by decide +kernel)]; kernel_rfl) | (rw [if_neg (by decide +kernel)]; exact ⟨rfl, rfl⟩)))
    (fun os started H enc _ => lifted os started H enc)
end Go.Proofs.YtjkckhfddgeboaaGreatDoor.fnExactGet
