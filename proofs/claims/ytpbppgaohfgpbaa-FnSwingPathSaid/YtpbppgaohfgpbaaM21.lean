/-
  Out of the text RowSay2: what the draws of polygons need.
-/
import Derived.Test.YtpbppgaohfgpbaaM17
import Derived.Test.YtpbppgaohfgpbaaM20
/- Out of the text RowSay2: what the draws of polygons need. -/
namespace Go.Proofs.Ytpbppgaohfgpbaa
set_option maxRecDepth 20000
set_option linter.unusedVariables false
set_option linter.unusedSimpArgs false
def rdO (ws : List Wh) (n : Int) : Option (List V) := if decide (1 ≤ n) && rowLen n.toNat then coll (fun k => atD ws (((k * (24 / n.toNat) : Nat)) : Int)) n.toNat else none
end Go.Proofs.Ytpbppgaohfgpbaa
