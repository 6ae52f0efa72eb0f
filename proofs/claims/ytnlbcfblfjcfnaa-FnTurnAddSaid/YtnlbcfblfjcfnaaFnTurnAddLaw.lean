/-
  Of every code: the law FnTurnAdd answers true: turns add up, and nothing that lay has turned. No condition.
-/
import Derived.Test.YtnlbcfblfjcfnaaShell
import Derived.Test.YtnlbcfblfjcfnaaLawTurn
namespace Go.Proofs.Ytnlbcfblfjcfnaa.fnTurnAdd
open Go.ChangeShapes Go.WideShapes Go.ChangeAt Go.RowKit Go.Proofs.Ytnlbcfblfjcfnaa
set_option linter.unusedVariables false
set_option linter.unusedSimpArgs false

set_option maxRecDepth 100000 in
theorem lifted (os : Os) (started : os.Started) (H : Type) (enc : TypeId × Value → H) :
    ReturnsInHanded {} Try.checked os 4 .any (Rows.fnTurnAddSpec.pre6 enc Try.prog Try.f4 Rows.fnTurnAddRow.domain false) (Rows.fnTurnAddSpec.post enc Try.prog Try.f4 false true false false) := by
  refine returnsInHanded_of_change (C := Try.checked) own started (by kernel_rfl) Try.func4
    (ChangeSpec.witness6 (enc := enc) (C := Try.checked) false ⟨#[], #[.slice none 0 0], []⟩ 8 (by kernel_rfl) (by kernel_rfl) (by kernel_rfl) (by kernel_rfl)) ?_
  intro W base args ds gs before hval hW _ _
  exact code_step Try.params4 (by kernel_rfl) rfl (fun _ _ => rfl) lawAdd_walk W base args ds gs before hval hW

theorem proved : Rows.FnTurnAddSaid :=
  OpenClaim.holds_of_wide 4 Try.f4 rfl rfl rfl rfl rfl rfl rfl ⟨rfl, rfl, rfl, rfl, rfl⟩ rfl rfl rfl rfl rfl (by kernel_rfl) Try.func4 (by kernel_rfl)
    (of_decide_eq_true (by kernel_rfl)) (by unfold Func.isWrapper; first | (rw [if_pos (by decide +kernel)]; kernel_rfl) | (rw [if_neg (by decide +kernel)]; exact ⟨rfl, rfl⟩))
    (fun os started H enc _ => lifted os started H enc)
#print axioms proved
end Go.Proofs.Ytnlbcfblfjcfnaa.fnTurnAdd
