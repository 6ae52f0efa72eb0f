/-
  Contracts of what signs are made of: comparisons, sizes, products of 128 bits, and the sign of a sum.
-/
import Derived.Test.YtmbhbocfnpklpaaSurdMath
import Derived.Test.YtmbhbocfnpklpaaTurn
import Derived.Shelf.Bits.Mul64
namespace Go.Proofs.Ytmbhbocfnpklpaa
set_option maxRecDepth 20000
open Go.ChangeShapes Go.WideShapes Go.ChangeAt Go.RowKit
set_option linter.unusedVariables false
set_option linter.unusedSimpArgs false

theorem sg1_neg {n : Int} (h : n < 0) : sg1 n = -1 := by unfold sg1; rw [if_neg (by omega), if_pos h]
theorem sg1_pos {n : Int} (h : 0 < n) : sg1 n = 1 := by unfold sg1; rw [if_pos h]
theorem sg1_nil {n : Int} (h : n = 0) : sg1 n = 0 := by subst h; rfl

/-- From -SurdMax to SurdMax. -/
def rng (n : Int) : Bool := decide (-10000000 ≤ n ∧ n ≤ 10000000)
theorem rng_in {n : Int} (h : rng n = true) : -10000000 ≤ n ∧ n ≤ 10000000 := of_decide_eq_true h
theorem inRange_any (n : Int) (w : World) : Calls Try.prog 86 #[.int .i64 n] w fun e w' => e = .returned (.bool (rng n)) ∧ w = w' := by
  unfold rng
  by_cases h1 : -10000000 ≤ n
  · go_enter Try.func86, Try.ntmps86
    go_wp2
    go_ret
    exact ⟨ret_bool (by simp [h1]), rfl⟩
  · go_enter Try.func86, Try.ntmps86
    go_wp2
    go_ret
    exact ⟨ret_bool (by simp; omega), rfl⟩
end Go.Proofs.Ytmbhbocfnpklpaa
