/-
  What spec's CycReal answers.
-/
import Derived.Test.YtcdlenphgenejabCycU
namespace Go.Proofs.Ytcdlenphgenejab
set_option maxRecDepth 20000
open Go.ChangeShapes Go.WideShapes Go.ChangeAt Go.RowKit
set_option linter.unusedVariables false
set_option linter.unusedSimpArgs false

end Go.Proofs.Ytcdlenphgenejab
