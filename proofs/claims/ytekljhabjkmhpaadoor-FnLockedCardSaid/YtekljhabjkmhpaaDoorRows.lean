/-
  NARROWER THAN 'FOR EVERY INPUT', by the rows' own cells (each row's printed sentence says how): FnModes: laid · FnLocked: laid · FnDropped: laid · FnExactGoes: laid · FnExactBoth: laid · FnExactLocksOk: laid.
  DERIVED. THE GIVEN ROWS OF THIS SEAT. 6 by the template 'for every input the law returns true; each argument reads behind the call as it read before'; 0 by the template 'total and deterministic' (their statements: YtekljhabjkmhpaaDoorTotals.lean).
  GIVEN WITH THE SEED: the statements are not yours to turn. If you find one false, say at which input.
  Laid BY PROGRAM, IN A SANDBOX (cutbox-rows.mjs): the forced cells as the released guide's own fill.sh prints them over the translation 5e1d89a295ac9ff4… (all of the seat's roots in one cut). By AI agents, Wed Nov 11 2026. No macro, syntax, notation, axiom, sorry.
-/
import Derived.Test.YtekljhabjkmhpaaDoorChecked
import GoSem.Claim
import GoSem.ClaimJoined
import GoSem.ClaimMapViews
import Derived.JoinedTies
import Derived.KernelRfl
namespace Go.Proofs.YtekljhabjkmhpaaDoor
/- THE CELL 'sum', in the pinned program and in every row, IS THE sha256 OF THE DUMP (.gsa) THAT YtekljhabjkmhpaaDoorProg.lean LOADS. Nothing in Lean hashes anything: it is a label: what it is worth is what the hold of that sum in a sandbox is worth. -/
noncomputable def Tryd.pinned : Pinned := { name := "ytekljhabjkmhpaadoor", sum := "5e1d89a295ac9ff402e6618dc833421231b514e343f3a74d7adc7e08ee342c9c", checked := Tryd.checked }
namespace Rows
def none {H : Type} : Left H := { results := [], args := [] }

/- WHAT THE LISTED PACKAGE-LEVEL VARIABLES READ AS WHEN THE CALL BEGINS. Each datum BY PROGRAM (the guide's laid-datum.mjs) off the statement by which the dump's own 'gosem.cut.vars' lays the variable. In a bare row this is a premise. The card (YtekljhabjkmhpaaDoorCards.lean) ties it to the program's text. -/
def laid_loop_example_g00181_impl_goTogether {H : Type} : DataW H := .agg [.agg [.lit (.bool true), .lit (.bool true), .lit (.bool true), .lit (.bool false)], .agg [.lit (.bool true), .lit (.bool true), .lit (.bool false), .lit (.bool false)], .agg [.lit (.bool true), .lit (.bool false), .lit (.bool true), .lit (.bool false)], .agg [.lit (.bool false), .lit (.bool false), .lit (.bool false), .lit (.bool false)]]
def laid_loop_example_g00181_impl_bothModes {H : Type} : DataW H := .agg [.agg [.lit (.int .i64 1), .lit (.int .i64 2), .lit (.int .i64 3), .lit (.int .i64 4)], .agg [.lit (.int .i64 2), .lit (.int .i64 2), .lit (.int .i64 4), .lit (.int .i64 4)], .agg [.lit (.int .i64 3), .lit (.int .i64 4), .lit (.int .i64 3), .lit (.int .i64 4)], .agg [.lit (.int .i64 4), .lit (.int .i64 4), .lit (.int .i64 4), .lit (.int .i64 4)]]

/-- 'laws.FnModes': WHATEVER THE INPUT: true; the input reads as it did. -/
def fnModesSpec : ChangeSpec := { name := "fnModes", vars := ["loop.example/g00181/impl.bothModes", "loop.example/g00181/impl.goTogether"], fn := fun _ => fun
  | [d, g1, g2] => { results := [.lit (.bool true)], args := [d], vars := [g1, g2] }
  | _ => none }
def fnModesRow : OpenClaim := { program := "ytekljhabjkmhpaadoor", sum := "5e1d89a295ac9ff402e6618dc833421231b514e343f3a74d7adc7e08ee342c9c", func := "loop.example/g00181/laws.FnModes", spec := "fnModes", named := ["loop.example/g00181/impl.bothModes", "loop.example/g00181/impl.goTogether"], apart := false, laid := [("loop.example/g00181/impl.goTogether", laid_loop_example_g00181_impl_goTogether), ("loop.example/g00181/impl.bothModes", laid_loop_example_g00181_impl_bothModes)] }
def FnModesSaid : Prop := fnModesRow.holds Tryd.pinned (OpenSpec.ofChange fnModesSpec)

/-- ITS FALSE NEIGHBOUR: 'it returns false'. Refute it at one input. -/
def fnModesWrong : ChangeSpec := { name := "fnModes", vars := ["loop.example/g00181/impl.bothModes", "loop.example/g00181/impl.goTogether"], fn := fun _ => fun
  | [d, g1, g2] => { results := [.lit (.bool false)], args := [d], vars := [g1, g2] }
  | _ => none }
def FnModesWrongFalsely : Prop := fnModesRow.holds Tryd.pinned (OpenSpec.ofChange fnModesWrong)

/-- 'laws.FnLocked': WHATEVER THE INPUT: true; the input reads as it did. -/
def fnLockedSpec : ChangeSpec := { name := "fnLocked", vars := ["loop.example/g00181/impl.goTogether", "loop.example/g00181/impl.bothModes"], fn := fun _ => fun
  | [d, g1, g2] => { results := [.lit (.bool true)], args := [d], vars := [g1, g2] }
  | _ => none }
def fnLockedRow : OpenClaim := { program := "ytekljhabjkmhpaadoor", sum := "5e1d89a295ac9ff402e6618dc833421231b514e343f3a74d7adc7e08ee342c9c", func := "loop.example/g00181/laws.FnLocked", spec := "fnLocked", named := ["loop.example/g00181/impl.goTogether", "loop.example/g00181/impl.bothModes"], apart := false, laid := [("loop.example/g00181/impl.goTogether", laid_loop_example_g00181_impl_goTogether), ("loop.example/g00181/impl.bothModes", laid_loop_example_g00181_impl_bothModes)] }
def FnLockedSaid : Prop := fnLockedRow.holds Tryd.pinned (OpenSpec.ofChange fnLockedSpec)

/-- ITS FALSE NEIGHBOUR: 'it returns false'. Refute it at one input. -/
def fnLockedWrong : ChangeSpec := { name := "fnLocked", vars := ["loop.example/g00181/impl.goTogether", "loop.example/g00181/impl.bothModes"], fn := fun _ => fun
  | [d, g1, g2] => { results := [.lit (.bool false)], args := [d], vars := [g1, g2] }
  | _ => none }
def FnLockedWrongFalsely : Prop := fnLockedRow.holds Tryd.pinned (OpenSpec.ofChange fnLockedWrong)

/-- 'laws.FnDropped': WHATEVER THE INPUT: true; the input reads as it did. -/
def fnDroppedSpec : ChangeSpec := { name := "fnDropped", vars := ["loop.example/g00181/impl.goTogether", "loop.example/g00181/impl.bothModes"], fn := fun _ => fun
  | [d, g1, g2] => { results := [.lit (.bool true)], args := [d], vars := [g1, g2] }
  | _ => none }
def fnDroppedRow : OpenClaim := { program := "ytekljhabjkmhpaadoor", sum := "5e1d89a295ac9ff402e6618dc833421231b514e343f3a74d7adc7e08ee342c9c", func := "loop.example/g00181/laws.FnDropped", spec := "fnDropped", named := ["loop.example/g00181/impl.goTogether", "loop.example/g00181/impl.bothModes"], apart := false, laid := [("loop.example/g00181/impl.goTogether", laid_loop_example_g00181_impl_goTogether), ("loop.example/g00181/impl.bothModes", laid_loop_example_g00181_impl_bothModes)] }
def FnDroppedSaid : Prop := fnDroppedRow.holds Tryd.pinned (OpenSpec.ofChange fnDroppedSpec)

/-- ITS FALSE NEIGHBOUR: 'it returns false'. Refute it at one input. -/
def fnDroppedWrong : ChangeSpec := { name := "fnDropped", vars := ["loop.example/g00181/impl.goTogether", "loop.example/g00181/impl.bothModes"], fn := fun _ => fun
  | [d, g1, g2] => { results := [.lit (.bool false)], args := [d], vars := [g1, g2] }
  | _ => none }
def FnDroppedWrongFalsely : Prop := fnDroppedRow.holds Tryd.pinned (OpenSpec.ofChange fnDroppedWrong)

/-- 'laws.FnExactGoes': WHATEVER THE INPUT: true; the input reads as it did. -/
def fnExactGoesSpec : ChangeSpec := { name := "fnExactGoes", vars := ["loop.example/g00181/impl.goTogether"], fn := fun _ => fun
  | [d1, d2, g1] => { results := [.lit (.bool true)], args := [d1, d2], vars := [g1] }
  | _ => none }
def fnExactGoesRow : OpenClaim := { program := "ytekljhabjkmhpaadoor", sum := "5e1d89a295ac9ff402e6618dc833421231b514e343f3a74d7adc7e08ee342c9c", func := "loop.example/g00181/laws.FnExactGoes", spec := "fnExactGoes", named := ["loop.example/g00181/impl.goTogether"], apart := false, laid := [("loop.example/g00181/impl.goTogether", laid_loop_example_g00181_impl_goTogether)] }
def FnExactGoesSaid : Prop := fnExactGoesRow.holds Tryd.pinned (OpenSpec.ofChange fnExactGoesSpec)

/-- ITS FALSE NEIGHBOUR: 'it returns false'. Refute it at one input. -/
def fnExactGoesWrong : ChangeSpec := { name := "fnExactGoes", vars := ["loop.example/g00181/impl.goTogether"], fn := fun _ => fun
  | [d1, d2, g1] => { results := [.lit (.bool false)], args := [d1, d2], vars := [g1] }
  | _ => none }
def FnExactGoesWrongFalsely : Prop := fnExactGoesRow.holds Tryd.pinned (OpenSpec.ofChange fnExactGoesWrong)

/-- 'laws.FnExactBoth': WHATEVER THE INPUT: true; the input reads as it did. -/
def fnExactBothSpec : ChangeSpec := { name := "fnExactBoth", vars := ["loop.example/g00181/impl.bothModes"], fn := fun _ => fun
  | [d1, d2, g1] => { results := [.lit (.bool true)], args := [d1, d2], vars := [g1] }
  | _ => none }
def fnExactBothRow : OpenClaim := { program := "ytekljhabjkmhpaadoor", sum := "5e1d89a295ac9ff402e6618dc833421231b514e343f3a74d7adc7e08ee342c9c", func := "loop.example/g00181/laws.FnExactBoth", spec := "fnExactBoth", named := ["loop.example/g00181/impl.bothModes"], apart := false, laid := [("loop.example/g00181/impl.bothModes", laid_loop_example_g00181_impl_bothModes)] }
def FnExactBothSaid : Prop := fnExactBothRow.holds Tryd.pinned (OpenSpec.ofChange fnExactBothSpec)

/-- ITS FALSE NEIGHBOUR: 'it returns false'. Refute it at one input. -/
def fnExactBothWrong : ChangeSpec := { name := "fnExactBoth", vars := ["loop.example/g00181/impl.bothModes"], fn := fun _ => fun
  | [d1, d2, g1] => { results := [.lit (.bool false)], args := [d1, d2], vars := [g1] }
  | _ => none }
def FnExactBothWrongFalsely : Prop := fnExactBothRow.holds Tryd.pinned (OpenSpec.ofChange fnExactBothWrong)

/-- 'laws.FnExactLocksOk': WHATEVER THE INPUT: true; the input reads as it did. -/
def fnExactLocksOkSpec : ChangeSpec := { name := "fnExactLocksOk", vars := ["loop.example/g00181/impl.goTogether"], fn := fun _ => fun
  | [d, g1] => { results := [.lit (.bool true)], args := [d], vars := [g1] }
  | _ => none }
def fnExactLocksOkRow : OpenClaim := { program := "ytekljhabjkmhpaadoor", sum := "5e1d89a295ac9ff402e6618dc833421231b514e343f3a74d7adc7e08ee342c9c", func := "loop.example/g00181/laws.FnExactLocksOk", spec := "fnExactLocksOk", named := ["loop.example/g00181/impl.goTogether"], apart := false, laid := [("loop.example/g00181/impl.goTogether", laid_loop_example_g00181_impl_goTogether)] }
def FnExactLocksOkSaid : Prop := fnExactLocksOkRow.holds Tryd.pinned (OpenSpec.ofChange fnExactLocksOkSpec)

/-- ITS FALSE NEIGHBOUR: 'it returns false'. Refute it at one input. -/
def fnExactLocksOkWrong : ChangeSpec := { name := "fnExactLocksOk", vars := ["loop.example/g00181/impl.goTogether"], fn := fun _ => fun
  | [d, g1] => { results := [.lit (.bool false)], args := [d], vars := [g1] }
  | _ => none }
def FnExactLocksOkWrongFalsely : Prop := fnExactLocksOkRow.holds Tryd.pinned (OpenSpec.ofChange fnExactLocksOkWrong)

/- THE SECOND FORM. 'bulk': how many values and letters a reading holds, each counted each time it is reached (what is shared counts as often as it is met; a slice's spare places count too). A statement '..UptoSaid' is the law's where the arguments, and the package variables that the reading takes, are together of bulk at most 1048576: NARROWER than '..Said'. Prove '..Said' where nothing that the law and all that it calls make is longer than what came in: it says more and counts as full. Else prove '..UptoSaid'. A law counts once. -/
mutual
def uptoBulk {H : Type} : DataW H → Nat
  | .lit (.string bytes) => bytes.length + 1
  | .lit _ => 1
  | .nil => 1
  | .ptr d => uptoBulk d + 1
  | .slice elems spare => uptoBulkAll elems + uptoBulkAll spare + 1
  | .agg parts => uptoBulkAll parts + 1
  | .iface _ d => uptoBulk d + 1
  | .map entries => uptoBulkEntries entries + 1
  | .held _ => 1
def uptoBulkAll {H : Type} : List (DataW H) → Nat
  | [] => 0
  | d :: r => uptoBulk d + uptoBulkAll r
def uptoBulkEntries {H : Type} : List (Lit × DataW H) → Nat
  | [] => 0
  | x :: r => uptoBulkEntry x + uptoBulkEntries r
def uptoBulkEntry {H : Type} : Lit × DataW H → Nat
  | (.string bytes, d) => bytes.length + uptoBulk d + 1
  | (_, d) => uptoBulk d + 1
 end
def uptoSmall : (H : Type) → List (DataW H) → Bool := fun _ ds => decide (uptoBulkAll ds ≤ 1048576)
def OpenSpec.upto (s : _root_.Go.ChangeSpec) : _root_.Go.OpenSpec := { _root_.Go.OpenSpec.ofChange s with cond := some uptoSmall }

/-- 'laws.FnModes', WHERE WHAT IT READS IS OF BULK AT MOST 1048576: true; the input reads as it did. -/
def fnModesUptoRow : OpenClaim := { program := "ytekljhabjkmhpaadoor", sum := "5e1d89a295ac9ff402e6618dc833421231b514e343f3a74d7adc7e08ee342c9c", func := "loop.example/g00181/laws.FnModes", spec := "fnModes", named := ["loop.example/g00181/impl.bothModes", "loop.example/g00181/impl.goTogether"], apart := false, laid := [("loop.example/g00181/impl.goTogether", laid_loop_example_g00181_impl_goTogether), ("loop.example/g00181/impl.bothModes", laid_loop_example_g00181_impl_bothModes)], narrowed := true }
def FnModesUptoSaid : Prop := fnModesUptoRow.holds Tryd.pinned (OpenSpec.upto fnModesSpec)

/-- 'laws.FnLocked', WHERE WHAT IT READS IS OF BULK AT MOST 1048576: true; the input reads as it did. -/
def fnLockedUptoRow : OpenClaim := { program := "ytekljhabjkmhpaadoor", sum := "5e1d89a295ac9ff402e6618dc833421231b514e343f3a74d7adc7e08ee342c9c", func := "loop.example/g00181/laws.FnLocked", spec := "fnLocked", named := ["loop.example/g00181/impl.goTogether", "loop.example/g00181/impl.bothModes"], apart := false, laid := [("loop.example/g00181/impl.goTogether", laid_loop_example_g00181_impl_goTogether), ("loop.example/g00181/impl.bothModes", laid_loop_example_g00181_impl_bothModes)], narrowed := true }
def FnLockedUptoSaid : Prop := fnLockedUptoRow.holds Tryd.pinned (OpenSpec.upto fnLockedSpec)

/-- 'laws.FnDropped', WHERE WHAT IT READS IS OF BULK AT MOST 1048576: true; the input reads as it did. -/
def fnDroppedUptoRow : OpenClaim := { program := "ytekljhabjkmhpaadoor", sum := "5e1d89a295ac9ff402e6618dc833421231b514e343f3a74d7adc7e08ee342c9c", func := "loop.example/g00181/laws.FnDropped", spec := "fnDropped", named := ["loop.example/g00181/impl.goTogether", "loop.example/g00181/impl.bothModes"], apart := false, laid := [("loop.example/g00181/impl.goTogether", laid_loop_example_g00181_impl_goTogether), ("loop.example/g00181/impl.bothModes", laid_loop_example_g00181_impl_bothModes)], narrowed := true }
def FnDroppedUptoSaid : Prop := fnDroppedUptoRow.holds Tryd.pinned (OpenSpec.upto fnDroppedSpec)

/-- 'laws.FnExactGoes', WHERE WHAT IT READS IS OF BULK AT MOST 1048576: true; the input reads as it did. -/
def fnExactGoesUptoRow : OpenClaim := { program := "ytekljhabjkmhpaadoor", sum := "5e1d89a295ac9ff402e6618dc833421231b514e343f3a74d7adc7e08ee342c9c", func := "loop.example/g00181/laws.FnExactGoes", spec := "fnExactGoes", named := ["loop.example/g00181/impl.goTogether"], apart := false, laid := [("loop.example/g00181/impl.goTogether", laid_loop_example_g00181_impl_goTogether)], narrowed := true }
def FnExactGoesUptoSaid : Prop := fnExactGoesUptoRow.holds Tryd.pinned (OpenSpec.upto fnExactGoesSpec)

/-- 'laws.FnExactBoth', WHERE WHAT IT READS IS OF BULK AT MOST 1048576: true; the input reads as it did. -/
def fnExactBothUptoRow : OpenClaim := { program := "ytekljhabjkmhpaadoor", sum := "5e1d89a295ac9ff402e6618dc833421231b514e343f3a74d7adc7e08ee342c9c", func := "loop.example/g00181/laws.FnExactBoth", spec := "fnExactBoth", named := ["loop.example/g00181/impl.bothModes"], apart := false, laid := [("loop.example/g00181/impl.bothModes", laid_loop_example_g00181_impl_bothModes)], narrowed := true }
def FnExactBothUptoSaid : Prop := fnExactBothUptoRow.holds Tryd.pinned (OpenSpec.upto fnExactBothSpec)

/-- 'laws.FnExactLocksOk', WHERE WHAT IT READS IS OF BULK AT MOST 1048576: true; the input reads as it did. -/
def fnExactLocksOkUptoRow : OpenClaim := { program := "ytekljhabjkmhpaadoor", sum := "5e1d89a295ac9ff402e6618dc833421231b514e343f3a74d7adc7e08ee342c9c", func := "loop.example/g00181/laws.FnExactLocksOk", spec := "fnExactLocksOk", named := ["loop.example/g00181/impl.goTogether"], apart := false, laid := [("loop.example/g00181/impl.goTogether", laid_loop_example_g00181_impl_goTogether)], narrowed := true }
def FnExactLocksOkUptoSaid : Prop := fnExactLocksOkUptoRow.holds Tryd.pinned (OpenSpec.upto fnExactLocksOkSpec)

end Rows
end Go.Proofs.YtekljhabjkmhpaaDoor
