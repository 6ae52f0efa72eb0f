/-
  The draws of chapter 1: turns and fractions out of a code.
-/
import Derived.Test.YtcdlenphgenejabPick
namespace Go.Proofs.Ytcdlenphgenejab
set_option maxRecDepth 20000
open Go.ChangeShapes Go.WideShapes Go.ChangeAt Go.RowKit
set_option linter.unusedVariables false
set_option linter.unusedSimpArgs false

/-- Two numbers drawn out of a code: nothing that lay has turned. -/
def Drew2 (w : World) (lo hi lo' hi' : Int) (e : Ending) (w' : World) : Prop :=
  ∃ (a b : Int), e = .returned (.tuple #[.int .i64 a, .int .i64 b]) ∧ lo ≤ a ∧ a ≤ hi ∧ lo' ≤ b ∧ b ≤ hi' ∧ Below w.heap.size w w'
/-- One number drawn out of a code. -/
def Drew1 (w : World) (lo hi : Int) (e : Ending) (w' : World) : Prop :=
  ∃ (a : Int), e = .returned (.int .i64 a) ∧ lo ≤ a ∧ a ≤ hi ∧ Below w.heap.size w w'

/-- The denominators that are drawn, as they lie. -/
abbrev denCells : Array Value := #[.int .i64 1, .int .i64 2, .int .i64 3, .int .i64 4, .int .i64 6, .int .i64 8, .int .i64 12, .int .i64 24, .int .i64 5, .int .i64 0, .int .i64 (-1)]
theorem den_at (k : Nat) (hk : k < 11) : ∃ d : Int, denCells[k]? = some (.int .i64 d) ∧ -1 ≤ d ∧ d ≤ 24 := by
  have key : ∀ j : Fin 11, ∃ d : Fin 26, denCells[j.val]? = some (.int .i64 ((d.val : Int) - 1)) := by
    intro j
    match j with
    | 0 => exact ⟨2, rfl⟩
    | 1 => exact ⟨3, rfl⟩
    | 2 => exact ⟨4, rfl⟩
    | 3 => exact ⟨5, rfl⟩
    | 4 => exact ⟨7, rfl⟩
    | 5 => exact ⟨9, rfl⟩
    | 6 => exact ⟨13, rfl⟩
    | 7 => exact ⟨25, rfl⟩
    | 8 => exact ⟨6, rfl⟩
    | 9 => exact ⟨1, rfl⟩
    | 10 => exact ⟨0, rfl⟩
  obtain ⟨d, hd⟩ := key ⟨k, hk⟩
  exact ⟨_, hd, by omega, by omega⟩
end Go.Proofs.Ytcdlenphgenejab
