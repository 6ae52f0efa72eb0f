/-
  Contracts of impl's calculations with exact points, third part: products, turned and mirrored points, roots.
  Contracts of impl's calculations with exact points, fourth part: pairs, differences, real points.
  Contracts of impl's calculations with exact points, fifth part: differences and real points.
  What impl's functions of exact points answer.
-/
import Derived.Test.YtnidiikcnplebaaM02
import Derived.Deep.RegionHeld3
import Derived.Deep.DeepCutAuto
/- Contracts of impl's calculations with exact points, third part: products, turned and mirrored points, roots. -/
namespace Go.Proofs.Ytnidiikcnplebaa
set_option maxRecDepth 20000
open Go.ChangeShapes Go.WideShapes Go.ChangeAt Go.RowKit
set_option linter.unusedVariables false
set_option linter.unusedSimpArgs false

end Go.Proofs.Ytnidiikcnplebaa
/- Contracts of impl's calculations with exact points, fourth part: pairs, differences, real points. -/
namespace Go.Proofs.Ytnidiikcnplebaa
set_option maxRecDepth 20000
open Go.ChangeShapes Go.WideShapes Go.ChangeAt Go.RowKit
set_option linter.unusedVariables false
set_option linter.unusedSimpArgs false

theorem exactOf_yes (a : Nat → Int) (h : okc a = true) (w : World) :
    Calls Try.prog 74 #[pt a] w fun e w' => e = .returned (.tuple #[pt a, .bool true]) ∧ Below w.heap.size w w' := by
  rw [← ans_yes h]; exact exactOf_any a w
theorem exactOf_no (a : Nat → Int) (h : okc a = false) (w : World) :
    Calls Try.prog 74 #[pt a] w fun e w' => e = .returned (.tuple #[pt nul, .bool false]) ∧ Below w.heap.size w w' := by
  rw [← ans_bad h]; exact exactOf_any a w
/-- What exactOf's two answers are. -/
theorem exactOf_two (a : Nat → Int) (w : World) :
    Calls Try.prog 74 #[pt a] w fun e w' => e = .returned (.tuple #[pt (if okc a then a else nul), .bool (okc a)]) ∧ Below w.heap.size w w' := by
  cases h : okc a
  · exact exactOf_no a h w
  · exact exactOf_yes a h w
end Go.Proofs.Ytnidiikcnplebaa
/- Contracts of impl's calculations with exact points, fifth part: differences and real points. -/
namespace Go.Proofs.Ytnidiikcnplebaa
set_option maxRecDepth 20000
open Go.ChangeShapes Go.WideShapes Go.ChangeAt Go.RowKit
set_option linter.unusedVariables false
set_option linter.unusedSimpArgs false

theorem size_exact (a : Nat → Int) : (Try.prog.info? 97).map (·.size) = some (lst 8 a).length := by rw [lst_length]; exact info_exact
theorem size_cycE (a : Nat → Int) : (Try.prog.info? 40).map (·.size) = some (lst 8 a).length := by rw [lst_length]; exact info_cyc

end Go.Proofs.Ytnidiikcnplebaa
/- What impl's functions of exact points answer. -/
namespace Go.Proofs.Ytnidiikcnplebaa
set_option maxRecDepth 20000
open Go.ChangeShapes Go.WideShapes Go.ChangeAt Go.RowKit
set_option linter.unusedVariables false
set_option linter.unusedSimpArgs false

theorem ret_bool' {a b : Bool} (h : a = b) : Ending.returned (.bool a) = .returned (.bool b) := by rw [h]

end Go.Proofs.Ytnidiikcnplebaa
