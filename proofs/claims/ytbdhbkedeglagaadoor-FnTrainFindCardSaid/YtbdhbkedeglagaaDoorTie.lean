/-
  DERIVED. GIVEN WITH THE SEED: THE PROGRAM's TIES (one call each: nine closed facts by the kernel) AND EACH ROW's TIE, after the 31st guide's Derived/Test/Toyas{Tie, Card}.lean. No idea stands in it: it is a product of the set-up. Laid BY PROGRAM, IN A SANDBOX (cutbox-door.mjs). By AI agents, Wed Nov 11 2026. No macro, syntax, notation, axiom, sorry.
-/
import Derived.Test.YtbdhbkedeglagaaDoorRows
import Derived.LaidByTextLater
import Derived.SevenTiedAt
import Derived.LaidSub
import Derived.LaidOnce
namespace Go.Proofs.YtbdhbkedeglagaaDoor
open Go
set_option maxRecDepth 100000
theorem seatTie1 : Tryd.prog.laidByTextLater [("errors.errorType", Rows.laid_errors_errorType), ("loop.example/turningwheels/impl.errTrainLength", Rows.laid_loop_example_turningwheels_impl_errTrainLength), ("loop.example/turningwheels/impl.errRatioBeyond", Rows.laid_loop_example_turningwheels_impl_errRatioBeyond)] [.handle, .sentinel, .sentinel] true :=
  Program.laidByTextLater_by_one 54 8 2 (by kernel_rfl) (by kernel_rfl) (by kernel_rfl) (by kernel_rfl) (by kernel_rfl) (by kernel_rfl) (fun _ _ => by kernel_rfl)
theorem noOwnUnsafe : Tryd.pinned.checked.prog.headLifts.contains "ownunsafe" = false := by kernel_rfl
theorem tie : Tryd.prog.laidByTextLater [("loop.example/turningwheels/impl.errTrainLength", Rows.laid_loop_example_turningwheels_impl_errTrainLength), ("loop.example/turningwheels/impl.errRatioBeyond", Rows.laid_loop_example_turningwheels_impl_errRatioBeyond)] [.sentinel, .sentinel] true :=
  Program.laidByTextLater.sub seatTie1 ["loop.example/turningwheels/impl.errTrainLength", "loop.example/turningwheels/impl.errRatioBeyond"] (by kernel_rfl) (by kernel_rfl)
theorem fnRatio_row_tie : Rows.fnRatioRow.laidByTextAt .later Tryd.pinned [.sentinel, .sentinel] true :=
  OpenClaim.laidByTextAt_later rfl rfl tie noOwnUnsafe
theorem fnTrainTurns_row_tie : Rows.fnTrainTurnsRow.laidByTextAt .later Tryd.pinned [.sentinel, .sentinel] true :=
  OpenClaim.laidByTextAt_later rfl rfl tie noOwnUnsafe
theorem fnExactTrainRatio_row_tie : Rows.fnExactTrainRatioRow.laidByTextAt .later Tryd.pinned [.sentinel, .sentinel] true :=
  OpenClaim.laidByTextAt_later rfl rfl tie noOwnUnsafe
theorem fnExactTrainTurns_row_tie : Rows.fnExactTrainTurnsRow.laidByTextAt .later Tryd.pinned [.sentinel, .sentinel] true :=
  OpenClaim.laidByTextAt_later rfl rfl tie noOwnUnsafe
theorem tie2 : Tryd.prog.laidByTextLater [("errors.errorType", Rows.laid_errors_errorType), ("loop.example/turningwheels/impl.errTrainLength", Rows.laid_loop_example_turningwheels_impl_errTrainLength), ("loop.example/turningwheels/impl.errRatioBeyond", Rows.laid_loop_example_turningwheels_impl_errRatioBeyond)] [.handle, .sentinel, .sentinel] true :=
  Program.laidByTextLater.sub seatTie1 ["errors.errorType", "loop.example/turningwheels/impl.errTrainLength", "loop.example/turningwheels/impl.errRatioBeyond"] (by kernel_rfl) (by kernel_rfl)
theorem fnTrainFind_row_tie : Rows.fnTrainFindRow.laidByTextAt .later Tryd.pinned [.handle, .sentinel, .sentinel] true :=
  OpenClaim.laidByTextAt_later rfl rfl tie2 noOwnUnsafe
theorem tie3 : Tryd.prog.laidByTextLater [("errors.errorType", Rows.laid_errors_errorType), ("loop.example/turningwheels/impl.errTrainLength", Rows.laid_loop_example_turningwheels_impl_errTrainLength)] [.handle, .sentinel] true :=
  Program.laidByTextLater.sub seatTie1 ["errors.errorType", "loop.example/turningwheels/impl.errTrainLength"] (by kernel_rfl) (by kernel_rfl)
theorem fnExactTrainFind_row_tie : Rows.fnExactTrainFindRow.laidByTextAt .later Tryd.pinned [.handle, .sentinel] true :=
  OpenClaim.laidByTextAt_later rfl rfl tie3 noOwnUnsafe
theorem fnRatioUpto_row_tie : Rows.fnRatioUptoRow.laidByTextAt .later Tryd.pinned [.sentinel, .sentinel] true :=
  OpenClaim.laidByTextAt_later rfl rfl tie noOwnUnsafe
theorem fnTrainTurnsUpto_row_tie : Rows.fnTrainTurnsUptoRow.laidByTextAt .later Tryd.pinned [.sentinel, .sentinel] true :=
  OpenClaim.laidByTextAt_later rfl rfl tie noOwnUnsafe
theorem fnTrainFindUpto_row_tie : Rows.fnTrainFindUptoRow.laidByTextAt .later Tryd.pinned [.handle, .sentinel, .sentinel] true :=
  OpenClaim.laidByTextAt_later rfl rfl tie2 noOwnUnsafe
theorem fnExactTrainRatioUpto_row_tie : Rows.fnExactTrainRatioUptoRow.laidByTextAt .later Tryd.pinned [.sentinel, .sentinel] true :=
  OpenClaim.laidByTextAt_later rfl rfl tie noOwnUnsafe
theorem fnExactTrainTurnsUpto_row_tie : Rows.fnExactTrainTurnsUptoRow.laidByTextAt .later Tryd.pinned [.sentinel, .sentinel] true :=
  OpenClaim.laidByTextAt_later rfl rfl tie noOwnUnsafe
theorem fnExactTrainFindUpto_row_tie : Rows.fnExactTrainFindUptoRow.laidByTextAt .later Tryd.pinned [.handle, .sentinel] true :=
  OpenClaim.laidByTextAt_later rfl rfl tie3 noOwnUnsafe
end Go.Proofs.YtbdhbkedeglagaaDoor
