/-
  Contracts of impl's calculations with exact points.
-/
import Derived.Test.YtbdhbkedeglagaaDoorVec
import Derived.Test.YtbdhbkedeglagaaDoorTurn
import Derived.Deep.WholeRow
import Derived.Deep.RegionWith
import Derived.StillTailTactics
import Derived.Deep.Cut
namespace Go.Proofs.YtbdhbkedeglagaaDoor
set_option maxRecDepth 20000
open Go.ChangeShapes Go.WideShapes Go.ChangeAt Go.RowKit
set_option linter.unusedVariables false
set_option linter.unusedSimpArgs false

theorem zero8 : (#[.int .i64 0, .int .i64 0, .int .i64 0, .int .i64 0, .int .i64 0, .int .i64 0, .int .i64 0, .int .i64 0] : Array Value) = vec 8 (fun _ => 0) := rfl

theorem zero24 : (#[.int .i64 0, .int .i64 0, .int .i64 0, .int .i64 0, .int .i64 0, .int .i64 0, .int .i64 0, .int .i64 0, .int .i64 0, .int .i64 0, .int .i64 0, .int .i64 0, .int .i64 0, .int .i64 0, .int .i64 0, .int .i64 0, .int .i64 0, .int .i64 0, .int .i64 0, .int .i64 0, .int .i64 0, .int .i64 0, .int .i64 0, .int .i64 0] : Array Value) = vec 24 nul := rfl
theorem key_i64 : Tryd.prog.plainKey 2 = true := by kernel_rfl
theorem key_int : Tryd.prog.plainKey 3 = true := by kernel_rfl
theorem cells_i64 : Tryd.prog.cellsOf 2 = 1 := by kernel_rfl
theorem cells_int : Tryd.prog.cellsOf 3 = 1 := by kernel_rfl
theorem some_i64 : (Tryd.prog.info? 2).isSome = true := by kernel_rfl
theorem some_int : (Tryd.prog.info? 3).isSome = true := by kernel_rfl
end Go.Proofs.YtbdhbkedeglagaaDoor
