/-
  floatOf.
-/
import Derived.Test.YtcdlenphgenejaaLawSurdBase
import Derived.Test.YtcdlenphgenejaaIeee
import Derived.WalkLawsBesides
namespace Go.Proofs.Ytcdlenphgenejaa
set_option maxRecDepth 20000
open Go.ChangeShapes Go.WideShapes Go.ChangeAt Go.RowKit
set_option linter.unusedVariables false
set_option linter.unusedSimpArgs false

theorem floatOf_any (a b c d : Int) {x1 x2 x3 y1 y2 y3 z : Nat} (h1 : Ieee.double.mul (fi b) 4609047870845172685 = some x1) (h2 : Ieee.double.add (fi a) x1 = some y1) (h3 : Ieee.double.mul (fi c) 4610479282544200874 = some x2) (h4 : Ieee.double.add y1 x2 = some y2)
    (h5 : Ieee.double.mul (fi d) 4612698179346440494 = some x3) (h6 : Ieee.double.add y2 x3 = some y3) (h7 : Ieee.double.div y3 4616189618054758400 = some z) (w : World) :
    Calls Try.prog 37 #[sv a b c d] w fun e w' => e = .returned (.float .f64 z) ∧ Below w.heap.size w w' := by
  have R1 : ∀ t w, (binOp .mul t (.float .f64 (floatOfInt .f64 b)) (.float .f64 4609047870845172685)).run Try.prog w = .ok (.float .f64 x1) w := fun t w => run_float_arith w .mul t .f64 _ _ _ h1
  have R2 : ∀ t w, (binOp .add t (.float .f64 (floatOfInt .f64 a)) (.float .f64 x1)).run Try.prog w = .ok (.float .f64 y1) w := fun t w => run_float_arith w .add t .f64 _ _ _ h2
  have R3 : ∀ t w, (binOp .mul t (.float .f64 (floatOfInt .f64 c)) (.float .f64 4610479282544200874)).run Try.prog w = .ok (.float .f64 x2) w := fun t w => run_float_arith w .mul t .f64 _ _ _ h3
  have R4 : ∀ t w, (binOp .add t (.float .f64 (y1)) (.float .f64 x2)).run Try.prog w = .ok (.float .f64 y2) w := fun t w => run_float_arith w .add t .f64 _ _ _ h4
  have R5 : ∀ t w, (binOp .mul t (.float .f64 (floatOfInt .f64 d)) (.float .f64 4612698179346440494)).run Try.prog w = .ok (.float .f64 x3) w := fun t w => run_float_arith w .mul t .f64 _ _ _ h5
  have R6 : ∀ t w, (binOp .add t (.float .f64 (y2)) (.float .f64 x3)).run Try.prog w = .ok (.float .f64 y3) w := fun t w => run_float_arith w .add t .f64 _ _ _ h6
  have R7 : ∀ t w, (binOp .quo t (.float .f64 (y3)) (.float .f64 4616189618054758400)).run Try.prog w = .ok (.float .f64 z) w := fun t w => run_float_arith w .quo t .f64 _ _ _ h7
  clear h1 h2 h3 h4 h5 h6 h7
  unfold sv
  go_enter Try.func37, Try.ntmps37
  go_wp2_with (first | rw [R1] | rw [R2] | rw [R3] | rw [R4] | rw [R5] | rw [R6] | rw [R7])
  go_ret
  exact ⟨rfl, below_one _ _⟩
end Go.Proofs.Ytcdlenphgenejaa
