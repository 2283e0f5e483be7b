/-
  NARROWER THAN 'FOR EVERY INPUT', by the rows' own cells (each row's printed sentence says how): FnExactAsk: laid · FnExactDropAll: laid · FnExactStuck: laid.
  DERIVED. THE GIVEN ROWS OF THIS SEAT. 3 by the template 'for every input the law returns true; each argument reads behind the call as it read before'; 0 by the template 'total and deterministic' (their statements: YtekljhabjkmhpabDoorTotals.lean).
  GIVEN WITH THE SEED: the statements are not yours to turn. If you find one false, say at which input.
  Laid BY PROGRAM, IN A SANDBOX (cutbox-rows.mjs): the forced cells as the released guide's own fill.sh prints them over the translation 4b40bbce44ce770b… (all of the seat's roots in one cut). By AI agents, Wed Nov 11 2026. No macro, syntax, notation, axiom, sorry.
-/
import Derived.Test.YtekljhabjkmhpabDoorChecked
import GoSem.Claim
import GoSem.ClaimJoined
import GoSem.ClaimMapViews
import Derived.JoinedTies
import Derived.KernelRfl
namespace Go.Proofs.YtekljhabjkmhpabDoor
/- THE CELL 'sum', in the pinned program and in every row, IS THE sha256 OF THE DUMP (.gsa) THAT YtekljhabjkmhpabDoorProg.lean LOADS. Nothing in Lean hashes anything: it is a label: what it is worth is what the hold of that sum in a sandbox is worth. -/
noncomputable def Tryd.pinned : Pinned := { name := "ytekljhabjkmhpabdoor", sum := "4b40bbce44ce770b1f4ee706e7cccdd369fec3cb20f2e08c7f47dfa73107a4c1", checked := Tryd.checked }
namespace Rows
def none {H : Type} : Left H := { results := [], args := [] }

/- WHAT THE LISTED PACKAGE-LEVEL VARIABLES READ AS WHEN THE CALL BEGINS. Each datum BY PROGRAM (the guide's laid-datum.mjs) off the statement by which the dump's own 'gosem.cut.vars' lays the variable. In a bare row this is a premise. The card (YtekljhabjkmhpabDoorCards.lean) ties it to the program's text. -/
def laid_loop_example_g00181_impl_goTogether {H : Type} : DataW H := .agg [.agg [.lit (.bool true), .lit (.bool true), .lit (.bool true), .lit (.bool false)], .agg [.lit (.bool true), .lit (.bool true), .lit (.bool false), .lit (.bool false)], .agg [.lit (.bool true), .lit (.bool false), .lit (.bool true), .lit (.bool false)], .agg [.lit (.bool false), .lit (.bool false), .lit (.bool false), .lit (.bool false)]]
def laid_loop_example_g00181_impl_bothModes {H : Type} : DataW H := .agg [.agg [.lit (.int .i64 1), .lit (.int .i64 2), .lit (.int .i64 3), .lit (.int .i64 4)], .agg [.lit (.int .i64 2), .lit (.int .i64 2), .lit (.int .i64 4), .lit (.int .i64 4)], .agg [.lit (.int .i64 3), .lit (.int .i64 4), .lit (.int .i64 3), .lit (.int .i64 4)], .agg [.lit (.int .i64 4), .lit (.int .i64 4), .lit (.int .i64 4), .lit (.int .i64 4)]]

/-- 'laws.FnExactAsk': WHATEVER THE INPUT: true; the input reads as it did. -/
def fnExactAskSpec : ChangeSpec := { name := "fnExactAsk", vars := ["loop.example/g00181/impl.goTogether", "loop.example/g00181/impl.bothModes"], fn := fun _ => fun
  | [d1, d2, d3, d4, g1, g2] => { results := [.lit (.bool true)], args := [d1, d2, d3, d4], vars := [g1, g2] }
  | _ => none }
def fnExactAskRow : OpenClaim := { program := "ytekljhabjkmhpabdoor", sum := "4b40bbce44ce770b1f4ee706e7cccdd369fec3cb20f2e08c7f47dfa73107a4c1", func := "loop.example/g00181/laws.FnExactAsk", spec := "fnExactAsk", named := ["loop.example/g00181/impl.goTogether", "loop.example/g00181/impl.bothModes"], apart := false, laid := [("loop.example/g00181/impl.goTogether", laid_loop_example_g00181_impl_goTogether), ("loop.example/g00181/impl.bothModes", laid_loop_example_g00181_impl_bothModes)] }
def FnExactAskSaid : Prop := fnExactAskRow.holds Tryd.pinned (OpenSpec.ofChange fnExactAskSpec)

/-- ITS FALSE NEIGHBOUR: 'it returns false'. Refute it at one input. -/
def fnExactAskWrong : ChangeSpec := { name := "fnExactAsk", vars := ["loop.example/g00181/impl.goTogether", "loop.example/g00181/impl.bothModes"], fn := fun _ => fun
  | [d1, d2, d3, d4, g1, g2] => { results := [.lit (.bool false)], args := [d1, d2, d3, d4], vars := [g1, g2] }
  | _ => none }
def FnExactAskWrongFalsely : Prop := fnExactAskRow.holds Tryd.pinned (OpenSpec.ofChange fnExactAskWrong)

/-- 'laws.FnExactDropAll': WHATEVER THE INPUT: true; the input reads as it did. -/
def fnExactDropAllSpec : ChangeSpec := { name := "fnExactDropAll", vars := ["loop.example/g00181/impl.goTogether", "loop.example/g00181/impl.bothModes"], fn := fun _ => fun
  | [d1, d2, g1, g2] => { results := [.lit (.bool true)], args := [d1, d2], vars := [g1, g2] }
  | _ => none }
def fnExactDropAllRow : OpenClaim := { program := "ytekljhabjkmhpabdoor", sum := "4b40bbce44ce770b1f4ee706e7cccdd369fec3cb20f2e08c7f47dfa73107a4c1", func := "loop.example/g00181/laws.FnExactDropAll", spec := "fnExactDropAll", named := ["loop.example/g00181/impl.goTogether", "loop.example/g00181/impl.bothModes"], apart := false, laid := [("loop.example/g00181/impl.goTogether", laid_loop_example_g00181_impl_goTogether), ("loop.example/g00181/impl.bothModes", laid_loop_example_g00181_impl_bothModes)] }
def FnExactDropAllSaid : Prop := fnExactDropAllRow.holds Tryd.pinned (OpenSpec.ofChange fnExactDropAllSpec)

/-- ITS FALSE NEIGHBOUR: 'it returns false'. Refute it at one input. -/
def fnExactDropAllWrong : ChangeSpec := { name := "fnExactDropAll", vars := ["loop.example/g00181/impl.goTogether", "loop.example/g00181/impl.bothModes"], fn := fun _ => fun
  | [d1, d2, g1, g2] => { results := [.lit (.bool false)], args := [d1, d2], vars := [g1, g2] }
  | _ => none }
def FnExactDropAllWrongFalsely : Prop := fnExactDropAllRow.holds Tryd.pinned (OpenSpec.ofChange fnExactDropAllWrong)

/-- 'laws.FnExactStuck': WHATEVER THE INPUT: true; the input reads as it did. -/
def fnExactStuckSpec : ChangeSpec := { name := "fnExactStuck", vars := ["loop.example/g00181/impl.goTogether", "loop.example/g00181/impl.bothModes"], fn := fun _ => fun
  | [d, g1, g2] => { results := [.lit (.bool true)], args := [d], vars := [g1, g2] }
  | _ => none }
def fnExactStuckRow : OpenClaim := { program := "ytekljhabjkmhpabdoor", sum := "4b40bbce44ce770b1f4ee706e7cccdd369fec3cb20f2e08c7f47dfa73107a4c1", func := "loop.example/g00181/laws.FnExactStuck", spec := "fnExactStuck", named := ["loop.example/g00181/impl.goTogether", "loop.example/g00181/impl.bothModes"], apart := false, laid := [("loop.example/g00181/impl.goTogether", laid_loop_example_g00181_impl_goTogether), ("loop.example/g00181/impl.bothModes", laid_loop_example_g00181_impl_bothModes)] }
def FnExactStuckSaid : Prop := fnExactStuckRow.holds Tryd.pinned (OpenSpec.ofChange fnExactStuckSpec)

/-- ITS FALSE NEIGHBOUR: 'it returns false'. Refute it at one input. -/
def fnExactStuckWrong : ChangeSpec := { name := "fnExactStuck", vars := ["loop.example/g00181/impl.goTogether", "loop.example/g00181/impl.bothModes"], fn := fun _ => fun
  | [d, g1, g2] => { results := [.lit (.bool false)], args := [d], vars := [g1, g2] }
  | _ => none }
def FnExactStuckWrongFalsely : Prop := fnExactStuckRow.holds Tryd.pinned (OpenSpec.ofChange fnExactStuckWrong)

/- THE SECOND FORM. 'bulk': how many values and letters a reading holds, each counted each time it is reached (what is shared counts as often as it is met; a slice's spare places count too). A statement '..UptoSaid' is the law's where the arguments, and the package variables that the reading takes, are together of bulk at most 1048576: NARROWER than '..Said'. Prove '..Said' where nothing that the law and all that it calls make is longer than what came in: it says more and counts as full. Else prove '..UptoSaid'. A law counts once. -/
mutual
def uptoBulk {H : Type} : DataW H → Nat
  | .lit (.string bytes) => bytes.length + 1
  | .lit _ => 1
  | .nil => 1
  | .ptr d => uptoBulk d + 1
  | .slice elems spare => uptoBulkAll elems + uptoBulkAll spare + 1
  | .agg parts => uptoBulkAll parts + 1
  | .iface _ d => uptoBulk d + 1
  | .map entries => uptoBulkEntries entries + 1
  | .held _ => 1
def uptoBulkAll {H : Type} : List (DataW H) → Nat
  | [] => 0
  | d :: r => uptoBulk d + uptoBulkAll r
def uptoBulkEntries {H : Type} : List (Lit × DataW H) → Nat
  | [] => 0
  | x :: r => uptoBulkEntry x + uptoBulkEntries r
def uptoBulkEntry {H : Type} : Lit × DataW H → Nat
  | (.string bytes, d) => bytes.length + uptoBulk d + 1
  | (_, d) => uptoBulk d + 1
 end
def uptoSmall : (H : Type) → List (DataW H) → Bool := fun _ ds => decide (uptoBulkAll ds ≤ 1048576)
def OpenSpec.upto (s : _root_.Go.ChangeSpec) : _root_.Go.OpenSpec := { _root_.Go.OpenSpec.ofChange s with cond := some uptoSmall }

/-- 'laws.FnExactAsk', WHERE WHAT IT READS IS OF BULK AT MOST 1048576: true; the input reads as it did. -/
def fnExactAskUptoRow : OpenClaim := { program := "ytekljhabjkmhpabdoor", sum := "4b40bbce44ce770b1f4ee706e7cccdd369fec3cb20f2e08c7f47dfa73107a4c1", func := "loop.example/g00181/laws.FnExactAsk", spec := "fnExactAsk", named := ["loop.example/g00181/impl.goTogether", "loop.example/g00181/impl.bothModes"], apart := false, laid := [("loop.example/g00181/impl.goTogether", laid_loop_example_g00181_impl_goTogether), ("loop.example/g00181/impl.bothModes", laid_loop_example_g00181_impl_bothModes)], narrowed := true }
def FnExactAskUptoSaid : Prop := fnExactAskUptoRow.holds Tryd.pinned (OpenSpec.upto fnExactAskSpec)

/-- 'laws.FnExactDropAll', WHERE WHAT IT READS IS OF BULK AT MOST 1048576: true; the input reads as it did. -/
def fnExactDropAllUptoRow : OpenClaim := { program := "ytekljhabjkmhpabdoor", sum := "4b40bbce44ce770b1f4ee706e7cccdd369fec3cb20f2e08c7f47dfa73107a4c1", func := "loop.example/g00181/laws.FnExactDropAll", spec := "fnExactDropAll", named := ["loop.example/g00181/impl.goTogether", "loop.example/g00181/impl.bothModes"], apart := false, laid := [("loop.example/g00181/impl.goTogether", laid_loop_example_g00181_impl_goTogether), ("loop.example/g00181/impl.bothModes", laid_loop_example_g00181_impl_bothModes)], narrowed := true }
def FnExactDropAllUptoSaid : Prop := fnExactDropAllUptoRow.holds Tryd.pinned (OpenSpec.upto fnExactDropAllSpec)

/-- 'laws.FnExactStuck', WHERE WHAT IT READS IS OF BULK AT MOST 1048576: true; the input reads as it did. -/
def fnExactStuckUptoRow : OpenClaim := { program := "ytekljhabjkmhpabdoor", sum := "4b40bbce44ce770b1f4ee706e7cccdd369fec3cb20f2e08c7f47dfa73107a4c1", func := "loop.example/g00181/laws.FnExactStuck", spec := "fnExactStuck", named := ["loop.example/g00181/impl.goTogether", "loop.example/g00181/impl.bothModes"], apart := false, laid := [("loop.example/g00181/impl.goTogether", laid_loop_example_g00181_impl_goTogether), ("loop.example/g00181/impl.bothModes", laid_loop_example_g00181_impl_bothModes)], narrowed := true }
def FnExactStuckUptoSaid : Prop := fnExactStuckUptoRow.holds Tryd.pinned (OpenSpec.upto fnExactStuckSpec)

end Rows
end Go.Proofs.YtekljhabjkmhpabDoor
