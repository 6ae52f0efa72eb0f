/-
  The draws of whole points and of points that are often real.
-/
import Derived.Test.YteicmnoafoekcaaDrawCyc
import Derived.Test.YteicmnoafoekcaaCycX
namespace Go.Proofs.Yteicmnoafoekcaa
set_option maxRecDepth 20000
open Go.ChangeShapes Go.WideShapes Go.ChangeAt Go.RowKit
set_option linter.unusedVariables false
set_option linter.unusedSimpArgs false

end Go.Proofs.Yteicmnoafoekcaa
