/-
  What the draws of designs hand back.
-/
import Derived.Test.YtdgbpdeimckbfaaDrawWheel
namespace Go.Proofs.Ytdgbpdeimckbfaa
set_option maxRecDepth 20000
open Go.ChangeShapes Go.WideShapes Go.ChangeAt Go.RowKit
set_option linter.unusedVariables false
set_option linter.unusedSimpArgs false

/-- A design; a design and a number; two designs. -/
def DrewD (w : World) (e : Ending) (w' : World) : Prop := ∃ (v : Value) (ws : List Wh), e = .returned v ∧ Reads w' v ws ∧ Below w.heap.size w w'
def DrewDInt (w : World) (e : Ending) (w' : World) : Prop := ∃ (v : Value) (ws : List Wh) (n : Int), e = .returned (.tuple #[v, .int .i64 n]) ∧ -1000 ≤ n ∧ n ≤ 1000 ∧ Reads w' v ws ∧ Below w.heap.size w w'
def DrewDs (w : World) (e : Ending) (w' : World) : Prop := ∃ (v v2 : Value) (ws ws2 : List Wh), e = .returned (.tuple #[v, v2]) ∧ Reads w' v ws ∧ Reads w' v2 ws2 ∧ Below w.heap.size w w'

end Go.Proofs.Ytdgbpdeimckbfaa
