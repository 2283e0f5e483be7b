/-
  DERIVED. GIVEN WITH THE SEED: THE PROGRAM's TIES (one call each: nine closed facts by the kernel) AND EACH ROW's TIE, after the 31st guide's Derived/Test/Toyas{Tie, Card}.lean. No idea stands in it: it is a product of the set-up. Laid BY PROGRAM, IN A SANDBOX (cutbox-door.mjs). By AI agents, Wed Nov 11 2026. No macro, syntax, notation, axiom, sorry.
-/
import Derived.Test.YtekljhabjkmhpaaDoorRows
import Derived.LaidByTextLater
import Derived.SevenTiedAt
import Derived.LaidSub
import Derived.LaidOnce
namespace Go.Proofs.YtekljhabjkmhpaaDoor
open Go
set_option maxRecDepth 100000
theorem seatTie1 : Tryd.prog.laidByTextLater [("loop.example/g00181/impl.goTogether", Rows.laid_loop_example_g00181_impl_goTogether), ("loop.example/g00181/impl.bothModes", Rows.laid_loop_example_g00181_impl_bothModes)] [.data, .data] true :=
  Program.laidByTextLater_by_one 27 8 17 (by kernel_rfl) (by kernel_rfl) (by kernel_rfl) (by kernel_rfl) (by kernel_rfl) (by kernel_rfl) (fun _ _ => by kernel_rfl)
theorem noOwnUnsafe : Tryd.pinned.checked.prog.headLifts.contains "ownunsafe" = false := by kernel_rfl
theorem tie : Tryd.prog.laidByTextLater [("loop.example/g00181/impl.goTogether", Rows.laid_loop_example_g00181_impl_goTogether), ("loop.example/g00181/impl.bothModes", Rows.laid_loop_example_g00181_impl_bothModes)] [.data, .data] true :=
  Program.laidByTextLater.sub seatTie1 ["loop.example/g00181/impl.goTogether", "loop.example/g00181/impl.bothModes"] (by kernel_rfl) (by kernel_rfl)
theorem fnModes_row_tie : Rows.fnModesRow.laidByTextAt .later Tryd.pinned [.data, .data] true :=
  OpenClaim.laidByTextAt_later rfl rfl tie noOwnUnsafe
theorem fnLocked_row_tie : Rows.fnLockedRow.laidByTextAt .later Tryd.pinned [.data, .data] true :=
  OpenClaim.laidByTextAt_later rfl rfl tie noOwnUnsafe
theorem fnDropped_row_tie : Rows.fnDroppedRow.laidByTextAt .later Tryd.pinned [.data, .data] true :=
  OpenClaim.laidByTextAt_later rfl rfl tie noOwnUnsafe
theorem tie2 : Tryd.prog.laidByTextLater [("loop.example/g00181/impl.goTogether", Rows.laid_loop_example_g00181_impl_goTogether)] [.data] true :=
  Program.laidByTextLater.sub seatTie1 ["loop.example/g00181/impl.goTogether"] (by kernel_rfl) (by kernel_rfl)
theorem fnExactGoes_row_tie : Rows.fnExactGoesRow.laidByTextAt .later Tryd.pinned [.data] true :=
  OpenClaim.laidByTextAt_later rfl rfl tie2 noOwnUnsafe
theorem fnExactLocksOk_row_tie : Rows.fnExactLocksOkRow.laidByTextAt .later Tryd.pinned [.data] true :=
  OpenClaim.laidByTextAt_later rfl rfl tie2 noOwnUnsafe
theorem tie3 : Tryd.prog.laidByTextLater [("loop.example/g00181/impl.bothModes", Rows.laid_loop_example_g00181_impl_bothModes)] [.data] true :=
  Program.laidByTextLater.sub seatTie1 ["loop.example/g00181/impl.bothModes"] (by kernel_rfl) (by kernel_rfl)
theorem fnExactBoth_row_tie : Rows.fnExactBothRow.laidByTextAt .later Tryd.pinned [.data] true :=
  OpenClaim.laidByTextAt_later rfl rfl tie3 noOwnUnsafe
theorem fnModesUpto_row_tie : Rows.fnModesUptoRow.laidByTextAt .later Tryd.pinned [.data, .data] true :=
  OpenClaim.laidByTextAt_later rfl rfl tie noOwnUnsafe
theorem fnLockedUpto_row_tie : Rows.fnLockedUptoRow.laidByTextAt .later Tryd.pinned [.data, .data] true :=
  OpenClaim.laidByTextAt_later rfl rfl tie noOwnUnsafe
theorem fnDroppedUpto_row_tie : Rows.fnDroppedUptoRow.laidByTextAt .later Tryd.pinned [.data, .data] true :=
  OpenClaim.laidByTextAt_later rfl rfl tie noOwnUnsafe
theorem fnExactGoesUpto_row_tie : Rows.fnExactGoesUptoRow.laidByTextAt .later Tryd.pinned [.data] true :=
  OpenClaim.laidByTextAt_later rfl rfl tie2 noOwnUnsafe
theorem fnExactBothUpto_row_tie : Rows.fnExactBothUptoRow.laidByTextAt .later Tryd.pinned [.data] true :=
  OpenClaim.laidByTextAt_later rfl rfl tie3 noOwnUnsafe
theorem fnExactLocksOkUpto_row_tie : Rows.fnExactLocksOkUptoRow.laidByTextAt .later Tryd.pinned [.data] true :=
  OpenClaim.laidByTextAt_later rfl rfl tie2 noOwnUnsafe
end Go.Proofs.YtekljhabjkmhpaaDoor
