/-
  Of every code: the law FnTurnOf answers true: whole turns are left out, and nothing that lay has turned. No condition.
-/
import Derived.Test.YtnlbcfblfjcfnaaShell
import Derived.Test.YtnlbcfblfjcfnaaLawTurn
namespace Go.Proofs.Ytnlbcfblfjcfnaa.fnTurnOf
open Go.ChangeShapes Go.WideShapes Go.ChangeAt Go.RowKit Go.Proofs.Ytnlbcfblfjcfnaa
set_option linter.unusedVariables false
set_option linter.unusedSimpArgs false

set_option maxRecDepth 100000 in
theorem lifted (os : Os) (started : os.Started) (H : Type) (enc : TypeId × Value → H) :
    ReturnsInHanded {} Try.checked os 3 .any (Rows.fnTurnOfSpec.pre6 enc Try.prog Try.f3 Rows.fnTurnOfRow.domain false) (Rows.fnTurnOfSpec.post enc Try.prog Try.f3 false true false false) := by
  refine returnsInHanded_of_change (C := Try.checked) own started (by kernel_rfl) Try.func3
    (ChangeSpec.witness6 (enc := enc) (C := Try.checked) false ⟨#[], #[.slice none 0 0], []⟩ 8 (by kernel_rfl) (by kernel_rfl) (by kernel_rfl) (by kernel_rfl)) ?_
  intro W base args ds gs before hval hW _ _
  exact code_step Try.params3 (by kernel_rfl) rfl (fun _ _ => rfl) lawOf_walk W base args ds gs before hval hW

theorem proved : Rows.FnTurnOfSaid :=
  OpenClaim.holds_of_wide 3 Try.f3 rfl rfl rfl rfl rfl rfl rfl ⟨rfl, rfl, rfl, rfl, rfl⟩ rfl rfl rfl rfl rfl (by kernel_rfl) Try.func3 (by kernel_rfl)
    (of_decide_eq_true (by kernel_rfl)) (by unfold Func.isWrapper; first | (rw [if_pos (by decide +kernel)]; kernel_rfl) | (rw [if_neg (by decide +kernel)]; exact ⟨rfl, rfl⟩))
    (fun os started H enc _ => lifted os started H enc)
#print axioms proved
end Go.Proofs.Ytnlbcfblfjcfnaa.fnTurnOf
