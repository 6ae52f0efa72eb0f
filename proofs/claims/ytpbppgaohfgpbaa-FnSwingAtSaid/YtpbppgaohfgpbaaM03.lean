/-
  Contracts of spec's calculations with exact points.
  Contracts of spec's calculations with exact points, second part: turns, sums, products, mirrored points.
  Contracts of spec's mirrored points and of the functions of exact points that it gives.
  What spec's CycReal answers.
-/
import Derived.Test.YtpbppgaohfgpbaaM01
import Derived.Deep.RegionHeld3
import Derived.Deep.DeepCutAuto
/- Contracts of spec's calculations with exact points. -/
namespace Go.Proofs.Ytpbppgaohfgpbaa
set_option maxRecDepth 20000
open Go.ChangeShapes Go.WideShapes Go.ChangeAt Go.RowKit
set_option linter.unusedVariables false
set_option linter.unusedSimpArgs false

/-- The first k numbers one place on. -/
def shf (a : Nat → Int) (k : Nat) : Nat → Int := fun j => if j = 0 then 0 else if j ≤ k then a (j - 1) else 0
theorem shf_zero (a : Nat → Int) (j : Nat) : nul j = shf a 0 j := by
  simp only [nul, shf]
  by_cases h : j = 0
  · rw [if_pos h]
  · rw [if_neg h, if_neg (by omega)]
theorem shf_step (a : Nat → Int) (k j : Nat) : upd (shf a k) (k + 1) (a k) j = shf a (k + 1) j := by
  simp only [upd, shf]
  by_cases h1 : j = k + 1
  · subst h1; simp
  · rw [if_neg h1]
    by_cases h2 : j = 0
    · rw [if_pos h2, if_pos h2]
    · rw [if_neg h2, if_neg h2]
      by_cases h3 : j ≤ k
      · rw [if_pos h3, if_pos (by omega)]
      · rw [if_neg h3, if_neg (by omega)]
theorem shf_stp (a : Nat → Int) : ∀ j, j < 8 → upd (upd (shf a 7) 4 (a 3 + a 7)) 0 (-a 7) j = stp a j := by
  intro j hj
  simp only [upd, stp, shf]
  by_cases h1 : j = 0
  · rw [if_pos h1, if_pos h1]
  · rw [if_neg h1, if_neg h1, if_neg h1]
    by_cases h2 : j = 4
    · rw [if_pos h2, if_pos h2]
    · rw [if_neg h2, if_neg h2, if_pos (by omega)]

end Go.Proofs.Ytpbppgaohfgpbaa
/- Contracts of spec's calculations with exact points, second part: turns, sums, products, mirrored points. -/
namespace Go.Proofs.Ytpbppgaohfgpbaa
set_option maxRecDepth 20000
open Go.ChangeShapes Go.WideShapes Go.ChangeAt Go.RowKit
set_option linter.unusedVariables false
set_option linter.unusedSimpArgs false

end Go.Proofs.Ytpbppgaohfgpbaa
/- Contracts of spec's mirrored points and of the functions of exact points that it gives. -/
namespace Go.Proofs.Ytpbppgaohfgpbaa
set_option maxRecDepth 20000
open Go.ChangeShapes Go.WideShapes Go.ChangeAt Go.RowKit
set_option linter.unusedVariables false
set_option linter.unusedSimpArgs false

end Go.Proofs.Ytpbppgaohfgpbaa
/- What spec's CycReal answers. -/
namespace Go.Proofs.Ytpbppgaohfgpbaa
set_option maxRecDepth 20000
open Go.ChangeShapes Go.WideShapes Go.ChangeAt Go.RowKit
set_option linter.unusedVariables false
set_option linter.unusedSimpArgs false

end Go.Proofs.Ytpbppgaohfgpbaa
