/-
  Contracts of impl's calculations with exact points, fourth part: pairs, differences, real points.
-/
import Derived.Test.YtbdhbkedeglagaaDoorCycC
import Derived.Deep.RegionHeld3
namespace Go.Proofs.YtbdhbkedeglagaaDoor
set_option maxRecDepth 20000
open Go.ChangeShapes Go.WideShapes Go.ChangeAt Go.RowKit
set_option linter.unusedVariables false
set_option linter.unusedSimpArgs false

end Go.Proofs.YtbdhbkedeglagaaDoor
