/-
  The exact laws of exact points of one point or of numbers: both sides answer alike, for every argument.
-/
import Derived.Test.YteicmnoafoekcaaCycX
namespace Go.Proofs.Yteicmnoafoekcaa
set_option maxRecDepth 20000
open Go.ChangeShapes Go.WideShapes Go.ChangeAt Go.RowKit
set_option linter.unusedVariables false
set_option linter.unusedSimpArgs false

theorem info_law : (Try.prog.info? 90).map (·.size) = some 8 := by kernel_rfl
theorem size_law (a : Nat → Int) : (Try.prog.info? 90).map (·.size) = some (lst 8 a).length := by rw [lst_length]; exact info_law

end Go.Proofs.Yteicmnoafoekcaa
