/-
  Contracts of spec's mirrored points and of the functions of exact points that it gives.
-/
import Derived.Test.YtbdhbkedeglagaaDoorCycT
namespace Go.Proofs.YtbdhbkedeglagaaDoor
set_option maxRecDepth 20000
open Go.ChangeShapes Go.WideShapes Go.ChangeAt Go.RowKit
set_option linter.unusedVariables false
set_option linter.unusedSimpArgs false

end Go.Proofs.YtbdhbkedeglagaaDoor
