/-
  Of every code: the law FnTurnTimes answers true: turns are done one after the other, and nothing that lay has turned. No condition.
-/
import Derived.Test.YtnlbcfblfjcfnaaShell
import Derived.Test.YtnlbcfblfjcfnaaLawTurn
namespace Go.Proofs.Ytnlbcfblfjcfnaa.fnTurnTimes
open Go.ChangeShapes Go.WideShapes Go.ChangeAt Go.RowKit Go.Proofs.Ytnlbcfblfjcfnaa
set_option linter.unusedVariables false
set_option linter.unusedSimpArgs false

set_option maxRecDepth 100000 in
theorem lifted (os : Os) (started : os.Started) (H : Type) (enc : TypeId × Value → H) :
    ReturnsInHanded {} Try.checked os 5 .any (Rows.fnTurnTimesSpec.pre6 enc Try.prog Try.f5 Rows.fnTurnTimesRow.domain false) (Rows.fnTurnTimesSpec.post enc Try.prog Try.f5 false true false false) := by
  refine returnsInHanded_of_change (C := Try.checked) own started (by kernel_rfl) Try.func5
    (ChangeSpec.witness6 (enc := enc) (C := Try.checked) false ⟨#[], #[.slice none 0 0], []⟩ 8 (by kernel_rfl) (by kernel_rfl) (by kernel_rfl) (by kernel_rfl)) ?_
  intro W base args ds gs before hval hW _ _
  exact code_step Try.params5 (by kernel_rfl) rfl (fun _ _ => rfl) lawTimes_walk W base args ds gs before hval hW

theorem proved : Rows.FnTurnTimesSaid :=
  OpenClaim.holds_of_wide 5 Try.f5 rfl rfl rfl rfl rfl rfl rfl ⟨rfl, rfl, rfl, rfl, rfl⟩ rfl rfl rfl rfl rfl (by kernel_rfl) Try.func5 (by kernel_rfl)
    (of_decide_eq_true (by kernel_rfl)) (by unfold Func.isWrapper; first | (rw [if_pos (by decide +kernel)]; kernel_rfl) | (rw [if_neg (by decide +kernel)]; exact ⟨rfl, rfl⟩))
    (fun os started H enc _ => lifted os started H enc)
#print axioms proved
end Go.Proofs.Ytnlbcfblfjcfnaa.fnTurnTimes
