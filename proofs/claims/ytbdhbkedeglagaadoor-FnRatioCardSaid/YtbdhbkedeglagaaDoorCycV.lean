/-
  What spec's CycReal answers.
-/
import Derived.Test.YtbdhbkedeglagaaDoorCycU
namespace Go.Proofs.YtbdhbkedeglagaaDoor
set_option maxRecDepth 20000
open Go.ChangeShapes Go.WideShapes Go.ChangeAt Go.RowKit
set_option linter.unusedVariables false
set_option linter.unusedSimpArgs false

end Go.Proofs.YtbdhbkedeglagaaDoor
