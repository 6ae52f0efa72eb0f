/-
  Contracts of impl's calculations with exact points, fourth part: pairs, differences, real points.
-/
import Derived.Test.YtmbhbocfnpklpaaCycC
import Derived.Deep.RegionHeld3
namespace Go.Proofs.Ytmbhbocfnpklpaa
set_option maxRecDepth 20000
open Go.ChangeShapes Go.WideShapes Go.ChangeAt Go.RowKit
set_option linter.unusedVariables false
set_option linter.unusedSimpArgs false

theorem exactOf_yes (a : Nat → Int) (h : okc a = true) (w : World) :
    Calls Try.prog 54 #[pt a] w fun e w' => e = .returned (.tuple #[pt a, .bool true]) ∧ Below w.heap.size w w' := by
  rw [← ans_yes h]; exact exactOf_any a w
theorem exactOf_no (a : Nat → Int) (h : okc a = false) (w : World) :
    Calls Try.prog 54 #[pt a] w fun e w' => e = .returned (.tuple #[pt nul, .bool false]) ∧ Below w.heap.size w w' := by
  rw [← ans_bad h]; exact exactOf_any a w
theorem told_yes (a : Nat → Int) (h : okc a = true) (w : World) :
    Calls Try.prog 53 #[pt a] w fun e w' => e = .returned (.tuple #[pt a, .bool true]) ∧ Below w.heap.size w w' := by
  rw [← ans_yes h]; exact told_any a w
theorem told_no (a : Nat → Int) (h : okc a = false) (w : World) :
    Calls Try.prog 53 #[pt a] w fun e w' => e = .returned (.tuple #[pt nul, .bool false]) ∧ Below w.heap.size w w' := by
  rw [← ans_bad h]; exact told_any a w

/-- What exactOf's two answers are. -/
theorem exactOf_two (a : Nat → Int) (w : World) :
    Calls Try.prog 54 #[pt a] w fun e w' => e = .returned (.tuple #[pt (if okc a then a else nul), .bool (okc a)]) ∧ Below w.heap.size w w' := by
  cases h : okc a
  · exact exactOf_no a h w
  · exact exactOf_yes a h w
theorem told_two (a : Nat → Int) (w : World) :
    Calls Try.prog 53 #[pt a] w fun e w' => e = .returned (.tuple #[pt (if okc a then a else nul), .bool (okc a)]) ∧ Below w.heap.size w w' := by
  cases h : okc a
  · exact told_no a h w
  · exact told_yes a h w

end Go.Proofs.Ytmbhbocfnpklpaa
