/-
  The draws of whole points and of points that are often real.
-/
import Derived.Test.YtmbhbocfnpklpaaDrawCyc
import Derived.Test.YtmbhbocfnpklpaaCycX
namespace Go.Proofs.Ytmbhbocfnpklpaa
set_option maxRecDepth 20000
open Go.ChangeShapes Go.WideShapes Go.ChangeAt Go.RowKit
set_option linter.unusedVariables false
set_option linter.unusedSimpArgs false

end Go.Proofs.Ytmbhbocfnpklpaa
