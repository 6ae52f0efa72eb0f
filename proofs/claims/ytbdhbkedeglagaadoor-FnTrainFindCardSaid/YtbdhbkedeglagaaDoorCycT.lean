/-
  Contracts of spec's calculations with exact points, second part: turns, sums, products, mirrored points.
-/
import Derived.Test.YtbdhbkedeglagaaDoorCycS
namespace Go.Proofs.YtbdhbkedeglagaaDoor
set_option maxRecDepth 20000
open Go.ChangeShapes Go.WideShapes Go.ChangeAt Go.RowKit
set_option linter.unusedVariables false
set_option linter.unusedSimpArgs false

end Go.Proofs.YtbdhbkedeglagaaDoor
