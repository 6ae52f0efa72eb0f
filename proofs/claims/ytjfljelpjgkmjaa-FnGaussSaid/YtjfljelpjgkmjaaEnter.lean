/-
  Three closed facts on the seat's program whose plain reckoning takes more memory than there is: they read the words of a long text letter by letter. Here the text is taken as a list first.
-/
import Derived.Test.YtjfljelpjgkmjaaStep
namespace Go.Proofs.Ytjfljelpjgkmjaa
open Go.ChangeShapes Go.WideShapes Go.ChangeAt Go.RowKit
set_option maxRecDepth 100000
set_option linter.unusedVariables false
set_option linter.unusedSimpArgs false

section
variable {P : Program} {rest : List (List Char)}
theorem make_of (hw : behindMainWord (wordsSigns P.initOrder.toList) = "cut".toList :: rest) : P.make = some .cut := by
  unfold Program.make
  rw [hw]
  rfl
theorem no_lifts : stripLifts liftWords ("cut".toList :: rest) = ([], "cut".toList :: rest) := by rfl
theorem lifts_of (hw : behindMainWord (wordsSigns P.initOrder.toList) = "cut".toList :: rest) : P.liftsFinal = false := by
  unfold Program.liftsFinal Program.headLifts
  rw [hw, no_lifts]
  cases rest <;> rfl
theorem may_of (hw : behindMainWord (wordsSigns P.initOrder.toList) = "cut".toList :: rest) (h1 : P.laysLater = false) (h2 : P.bearsReflect = false) (h3 : P.doorFits [] = true) : P.mayEnter = true := by
  unfold Program.mayEnter
  rw [hw]
  show (_ || _ || _) = true
  rw [no_lifts, h1, h2, h3]
  cases rest <;> rfl
end
def signs : { l : List Char // Try.prog.initOrder = String.ofList l } := ⟨_, rfl⟩
theorem signs_are : Try.prog.initOrder.toList = signs.1 := (congrArg String.toList signs.2).trans String.toList_ofList
theorem words_are : behindMainWord (wordsSigns Try.prog.initOrder.toList) = "cut".toList :: (behindMainWord (wordsSigns signs.1)).tail :=
  (congrArg (fun l => behindMainWord (wordsSigns l)) signs_are).trans (by kernel_rfl)
theorem make_is : Try.prog.make = some .cut := make_of words_are
theorem lifts_is : Try.prog.liftsFinal = false := lifts_of words_are
theorem lays_no : Try.prog.laysLater = false := by kernel_rfl
theorem bears_no : Try.prog.bearsReflect = false := by kernel_rfl
theorem door_yes : Try.prog.doorFits [] = true := by kernel_rfl
theorem may_is : Try.prog.mayEnter = true := may_of words_are lays_no bears_no door_yes
end Go.Proofs.Ytjfljelpjgkmjaa
