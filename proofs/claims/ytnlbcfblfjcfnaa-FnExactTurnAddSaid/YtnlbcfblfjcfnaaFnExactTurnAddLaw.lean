/-
  Of every two numbers: the law FnExactTurnAdd answers true: impl's TurnAdd answers as spec's does, nothing that lay has turned. No condition.
-/
import Derived.Test.YtnlbcfblfjcfnaaShell
import Derived.Test.YtnlbcfblfjcfnaaExactTurnA
namespace Go.Proofs.Ytnlbcfblfjcfnaa.fnExactTurnAdd
open Go.ChangeShapes Go.WideShapes Go.ChangeAt Go.RowKit Go.Proofs.Ytnlbcfblfjcfnaa
set_option linter.unusedVariables false
set_option linter.unusedSimpArgs false

set_option maxRecDepth 100000 in
theorem lifted (os : Os) (started : os.Started) (H : Type) (enc : TypeId × Value → H) :
    ReturnsInHanded {} Try.checked os 9 .any (Rows.fnExactTurnAddSpec.pre6 enc Try.prog Try.f9 Rows.fnExactTurnAddRow.domain false) (Rows.fnExactTurnAddSpec.post enc Try.prog Try.f9 false true false false) := by
  refine returnsInHanded_of_change (C := Try.checked) own started (by kernel_rfl) Try.func9
    (ChangeSpec.witness6 (enc := enc) (C := Try.checked) false ⟨#[], #[.int .i64 0, .int .i64 0], []⟩ 8 (by kernel_rfl) (by kernel_rfl) (by kernel_rfl) (by kernel_rfl)) ?_
  intro W base args ds gs before hval hW _ _
  exact int2_step Try.params9 (by kernel_rfl) rfl (fun _ _ _ => rfl) (fun a b w _ _ _ _ => (exactAdd_walk a b w).mono fun _ _ h => fine_same h) W base args ds gs before hval hW

theorem proved : Rows.FnExactTurnAddSaid :=
  OpenClaim.holds_of_wide 9 Try.f9 rfl rfl rfl rfl rfl rfl rfl ⟨rfl, rfl, rfl, rfl, rfl⟩ rfl rfl rfl rfl rfl (by kernel_rfl) Try.func9 (by kernel_rfl)
    (of_decide_eq_true (by kernel_rfl)) (by unfold Func.isWrapper; first | (rw [if_pos (by decide +kernel)]; kernel_rfl) | (rw [if_neg (by decide +kernel)]; exact ⟨rfl, rfl⟩))
    (fun os started H enc _ => lifted os started H enc)
#print axioms proved
end Go.Proofs.Ytnlbcfblfjcfnaa.fnExactTurnAdd
