/-
  The laws' helpers on exact points: copying and comparing; and what both sides answer.
-/
import Derived.Test.YtbdhbkedeglagaaDoorCycV
import Derived.Test.YtbdhbkedeglagaaDoorCycF
import Derived.Deep.QuietTactic
import Derived.BigQuiet
namespace Go.Proofs.YtbdhbkedeglagaaDoor
set_option maxRecDepth 20000
open Go.ChangeShapes Go.WideShapes Go.ChangeAt Go.RowKit
set_option linter.unusedVariables false
set_option linter.unusedSimpArgs false

end Go.Proofs.YtbdhbkedeglagaaDoor
