/-
  The draws of whole points and of points that are often real.
-/
import Derived.Test.YtbdhbkedeglagaaDoorDrawCyc
import Derived.Test.YtbdhbkedeglagaaDoorCycX
namespace Go.Proofs.YtbdhbkedeglagaaDoor
set_option maxRecDepth 20000
open Go.ChangeShapes Go.WideShapes Go.ChangeAt Go.RowKit
set_option linter.unusedVariables false
set_option linter.unusedSimpArgs false

end Go.Proofs.YtbdhbkedeglagaaDoor
