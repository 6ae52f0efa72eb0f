/-
  Contracts of impl's calculations with exact points, second part: multiples, and powers that come down.
  Contracts of impl's calculations with exact points, third part: products, turned and mirrored points, roots.
  Contracts of impl's calculations with exact points, fourth part: pairs, differences, real points.
  Contracts of impl's calculations with exact points, fifth part: differences and real points.
-/
import Derived.Test.YtpbppgaohfgpbaaM01
import Derived.Deep.RegionHeld3
import Derived.Deep.DeepCutAuto
/- Contracts of impl's calculations with exact points, second part: multiples, and powers that come down. -/
namespace Go.Proofs.Ytpbppgaohfgpbaa
set_option maxRecDepth 20000
open Go.ChangeShapes Go.WideShapes Go.ChangeAt Go.RowKit
set_option linter.unusedVariables false
set_option linter.unusedSimpArgs false

/-- Each number times n. -/
def tms (a : Nat → Int) (n : Int) : Nat → Int := fun j => a j * n
theorem tms_scl (a : Nat → Int) (n : Int) : tms a n = scl n a := by funext j; exact Int.mul_comm _ _

/-- One power comes down, in two steps. -/
def down1 (p : Nat → Int) (m : Nat) : Nat → Int := upd p (m + 4) (p (m + 4) + p (m + 8))
theorem down_two (p : Nat → Int) (m : Nat) : upd (down1 p m) m (down1 p m m - down1 p m (m + 8)) = down p (m + 8) := by
  funext j
  simp only [upd, down1, down, show m + 8 - 8 = m by omega, show m + 8 - 4 = m + 4 by omega, show ¬ m = m + 4 by omega, show ¬ m + 8 = m + 4 by omega, if_false]
  by_cases h : j = m
  · subst h; simp
  · rw [if_neg h, if_neg h]
    by_cases h' : j = m + 4
    · subst h'; simp
    · rw [if_neg h', if_neg h']

end Go.Proofs.Ytpbppgaohfgpbaa
/- Contracts of impl's calculations with exact points, third part: products, turned and mirrored points, roots. -/
namespace Go.Proofs.Ytpbppgaohfgpbaa
set_option maxRecDepth 20000
open Go.ChangeShapes Go.WideShapes Go.ChangeAt Go.RowKit
set_option linter.unusedVariables false
set_option linter.unusedSimpArgs false

end Go.Proofs.Ytpbppgaohfgpbaa
/- Contracts of impl's calculations with exact points, fourth part: pairs, differences, real points. -/
namespace Go.Proofs.Ytpbppgaohfgpbaa
set_option maxRecDepth 20000
open Go.ChangeShapes Go.WideShapes Go.ChangeAt Go.RowKit
set_option linter.unusedVariables false
set_option linter.unusedSimpArgs false

end Go.Proofs.Ytpbppgaohfgpbaa
/- Contracts of impl's calculations with exact points, fifth part: differences and real points. -/
namespace Go.Proofs.Ytpbppgaohfgpbaa
set_option maxRecDepth 20000
open Go.ChangeShapes Go.WideShapes Go.ChangeAt Go.RowKit
set_option linter.unusedVariables false
set_option linter.unusedSimpArgs false

end Go.Proofs.Ytpbppgaohfgpbaa
