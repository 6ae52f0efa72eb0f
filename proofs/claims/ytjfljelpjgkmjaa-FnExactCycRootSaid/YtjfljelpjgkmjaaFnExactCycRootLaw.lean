/-
  For every number CycRoot and its model answer the same: the law FnExactCycRoot is true and leaves its arguments as they were.
-/
import Derived.Test.YtjfljelpjgkmjaaEnter
import Derived.Test.YtjfljelpjgkmjaaStep
import Derived.Test.YtjfljelpjgkmjaaCycZ
namespace Go.Proofs.Ytjfljelpjgkmjaa.fnExactCycRoot
open Go.ChangeShapes Go.WideShapes Go.ChangeAt Go.RowKit Go.Proofs.Ytjfljelpjgkmjaa
set_option linter.unusedVariables false
set_option linter.unusedSimpArgs false

set_option maxRecDepth 100000 in
theorem lifted (os : Os) (started : os.Started) (H : Type) (enc : TypeId × Value → H) :
    ReturnsInHanded {} Try.checked os 15 .any (Rows.fnExactCycRootSpec.pre6 enc Try.prog Try.f15 Rows.fnExactCycRootRow.domain false) (Rows.fnExactCycRootSpec.post enc Try.prog Try.f15 false true false false) := by
  refine returnsInHanded_of_change (C := Try.checked) own started (by kernel_rfl) Try.func15
    (ChangeSpec.witness6 (enc := enc) (C := Try.checked) false ⟨#[], #[.int .i64 0], []⟩ 8 (by kernel_rfl) (by kernel_rfl) (by kernel_rfl) (by kernel_rfl)) ?_
  intro W base args ds gs before hval hW _ _
  obtain ⟨t, d, rfl, rfl, -, -⟩ := int_open (base := base) Try.params15 hval hW
  obtain rfl : gs = [] := by
    obtain ⟨p, q, _, hV, _⟩ := hW
    exact (trodVars_none hV).1
  exact any_step (by kernel_rfl) (by kernel_rfl) (by kernel_rfl) rfl hW (exactCycRoot_walk t W)

theorem closed : joinedFacts Try.prog 15 Try.f15 Rows.fnExactCycRootSpec Rows.fnExactCycRootRow = true := by
  unfold joinedFacts
  simp only [may_is, lifts_is, make_is]
  kernel_rfl

theorem proved : Rows.FnExactCycRootSaid :=
  OpenClaim.holds_of_wide 15 Try.f15 rfl rfl rfl rfl rfl rfl rfl ⟨rfl, rfl, rfl, rfl, rfl⟩ rfl rfl rfl rfl rfl (by kernel_rfl) Try.func15 closed
    (of_decide_eq_true (by kernel_rfl)) (by unfold Func.isWrapper; first | (rw [if_pos (by decide +kernel)]; kernel_rfl) | (rw [if_neg (by decide +kernel)]; exact ⟨rfl, rfl⟩))
    (fun os started H enc _ => lifted os started H enc)
#print axioms proved
end Go.Proofs.Ytjfljelpjgkmjaa.fnExactCycRoot
