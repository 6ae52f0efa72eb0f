/-
  Out of the text ListOpen: what the draws of polygons need.
-/
import Derived.Test.YtdpakhggpgdgbaaGreatM00
import Derived.Test.YtdpakhggpgdgbaaGreatM01
import Derived.Lib.SmallJoins
import Derived.Deep.DeepHandedRow
import Derived.Test.YtdpakhggpgdgbaaGreatM09
import Derived.Test.YtdpakhggpgdgbaaGreatM10
import Derived.Deep.Slices
/- Out of the text ListOpen: what the draws of polygons need. -/
namespace Go.Proofs.YtdpakhggpgdgbaaGreat
open Go.Joins Go.ChangeShapes Go.WideShapes Go.RowKit Go.Deep
set_option maxRecDepth 20000
set_option linter.unusedVariables false
set_option linter.unusedSimpArgs false
section
variable {H : Type} {he : TypeId × Value → H} {P : Program} {w : World} {held : Bool} {α : Type} {en : α → List Value} {K : Nat}
end
/-- An exact point's eight cells. -/
def encV (a : V) : List Value := lst 8 a.up
theorem encV_ok : Enc encV 8 := ⟨fun a => lst_length 8 _, fun a => lst_one 8 _, by omega⟩
instance : Inhabited V := ⟨V.zero⟩
section
variable {H : Type} {he : TypeId × Value → H} {P : Program} {w : World} {base : Nat} {spare : Nat → Bool} {held : Bool}
end
end Go.Proofs.YtdpakhggpgdgbaaGreat
