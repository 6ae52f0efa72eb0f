/-
  For every two exact points CycLess and its model answer the same: the law FnExactCycLess is true and leaves its arguments as they were.
-/
import Derived.Test.YtjfljelpjgkmjaaEnter
import Derived.Test.YtjfljelpjgkmjaaStep
import Derived.Test.YtjfljelpjgkmjaaCycOpen
import Derived.Test.YtjfljelpjgkmjaaExactCycLess
namespace Go.Proofs.Ytjfljelpjgkmjaa.fnExactCycLess
open Go.ChangeShapes Go.WideShapes Go.ChangeAt Go.RowKit Go.Proofs.Ytjfljelpjgkmjaa
set_option linter.unusedVariables false
set_option linter.unusedSimpArgs false

set_option maxRecDepth 100000 in
theorem lifted (os : Os) (started : os.Started) (H : Type) (enc : TypeId × Value → H) :
    ReturnsInHanded {} Try.checked os 17 .any (Rows.fnExactCycLessSpec.pre6 enc Try.prog Try.f17 Rows.fnExactCycLessRow.domain false) (Rows.fnExactCycLessSpec.post enc Try.prog Try.f17 false true false false) := by
  refine returnsInHanded_of_change (C := Try.checked) own started (by kernel_rfl) Try.func17
    (ChangeSpec.witness6 (enc := enc) (C := Try.checked) false ⟨#[], #[.agg #[.int .i64 0, .int .i64 0, .int .i64 0, .int .i64 0, .int .i64 0, .int .i64 0, .int .i64 0, .int .i64 0], .agg #[.int .i64 0, .int .i64 0, .int .i64 0, .int .i64 0, .int .i64 0, .int .i64 0, .int .i64 0, .int .i64 0]], []⟩ 8 (by kernel_rfl) (by kernel_rfl) (by kernel_rfl) (by kernel_rfl)) ?_
  intro W base args ds gs before hval hW _ _
  obtain ⟨a, b, d, d2, rfl, rfl⟩ := cyc2_open (base := base) Try.params17 hval hW
  obtain rfl : gs = [] := by
    obtain ⟨p, q, _, hV, _⟩ := hW
    exact (trodVars_none hV).1
  exact any_step (by kernel_rfl) (by kernel_rfl) (by kernel_rfl) rfl hW (exactCycLess_walk a b W)

theorem closed : joinedFacts Try.prog 17 Try.f17 Rows.fnExactCycLessSpec Rows.fnExactCycLessRow = true := by
  unfold joinedFacts
  simp only [may_is, lifts_is, make_is]
  kernel_rfl

theorem proved : Rows.FnExactCycLessSaid :=
  OpenClaim.holds_of_wide 17 Try.f17 rfl rfl rfl rfl rfl rfl rfl ⟨rfl, rfl, rfl, rfl, rfl⟩ rfl rfl rfl rfl rfl (by kernel_rfl) Try.func17 closed
    (of_decide_eq_true (by kernel_rfl)) (by unfold Func.isWrapper; first | (rw [if_pos (by decide +kernel)]; kernel_rfl) | (rw [if_neg (by decide +kernel)]; exact ⟨rfl, rfl⟩))
    (fun os started H enc _ => lifted os started H enc)
#print axioms proved
end Go.Proofs.Ytjfljelpjgkmjaa.fnExactCycLess
