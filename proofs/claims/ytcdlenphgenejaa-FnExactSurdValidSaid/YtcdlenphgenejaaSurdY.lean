/-
  The exact laws' own functions on surds.
-/
import Derived.Test.YtcdlenphgenejaaSurdX
import Derived.Test.YtcdlenphgenejaaCycX
namespace Go.Proofs.Ytcdlenphgenejaa
set_option maxRecDepth 20000
open Go.ChangeShapes Go.WideShapes Go.ChangeAt Go.RowKit
set_option linter.unusedVariables false
set_option linter.unusedSimpArgs false

theorem info_lsurd : (Try.prog.info? 46).map (·.size) = some 4 := by kernel_rfl
theorem size_lsurd (a : Nat → Int) : (Try.prog.info? 46).map (·.size) = some (lst 4 a).length := by rw [lst_length]; exact info_lsurd
theorem toSurd_any (a : Nat → Int) (w : World) : Calls Try.prog 46 #[p4 a] w fun e w' => e = .returned (p4 a) ∧ Below w.heap.size w w' := by
  change Calls Try.prog 46 #[.agg #[.int .i64 (a 0), .int .i64 (a 1), .int .i64 (a 2), .int .i64 (a 3)]] w fun e w' => e = .returned (.agg #[.int .i64 (a 0), .int .i64 (a 1), .int .i64 (a 2), .int .i64 (a 3)]) ∧ Below w.heap.size w w'
  go_enter Try.func46, Try.ntmps46
  go_wp2
  simp [bodyPost, results, Try.results46, go_sem]
  exact below_three _ _ _ _
theorem eqSurd_yes (a : Nat → Int) (w : World) : Calls Try.prog 48 #[p4 a, p4 a] w fun e w' => e = .returned (.bool true) ∧ Below w.heap.size w w' := by
  change Calls Try.prog 48 #[.agg #[.int .i64 (a 0), .int .i64 (a 1), .int .i64 (a 2), .int .i64 (a 3)], .agg #[.int .i64 (a 0), .int .i64 (a 1), .int .i64 (a 2), .int .i64 (a 3)]] w fun e w' => e = .returned (.bool true) ∧ Below w.heap.size w w'
  go_enter Try.func48, Try.ntmps48
  go_wp2
  go_ret
  exact ⟨rfl, below_two _ _ _⟩
end Go.Proofs.Ytcdlenphgenejaa
