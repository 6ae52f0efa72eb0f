/-
  Contracts of impl's calculations with exact points, fifth part: differences and real points.
-/
import Derived.Test.YtbdhbkedeglagaaDoorCycD
namespace Go.Proofs.YtbdhbkedeglagaaDoor
set_option maxRecDepth 20000
open Go.ChangeShapes Go.WideShapes Go.ChangeAt Go.RowKit
set_option linter.unusedVariables false
set_option linter.unusedSimpArgs false

end Go.Proofs.YtbdhbkedeglagaaDoor
