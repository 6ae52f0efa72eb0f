/-
  Contracts of impl's calculations with exact points, fifth part: differences and real points.
-/
import Derived.Test.YteicmnoafoekcaaCycD
namespace Go.Proofs.Yteicmnoafoekcaa
set_option maxRecDepth 20000
open Go.ChangeShapes Go.WideShapes Go.ChangeAt Go.RowKit
set_option linter.unusedVariables false
set_option linter.unusedSimpArgs false

theorem size_exact (a : Nat → Int) : (Try.prog.info? 66).map (·.size) = some (lst 8 a).length := by rw [lst_length]; exact info_exact
theorem size_cyc (a : Nat → Int) : (Try.prog.info? 32).map (·.size) = some (lst 8 a).length := by rw [lst_length]; exact info_cyc

end Go.Proofs.Yteicmnoafoekcaa
