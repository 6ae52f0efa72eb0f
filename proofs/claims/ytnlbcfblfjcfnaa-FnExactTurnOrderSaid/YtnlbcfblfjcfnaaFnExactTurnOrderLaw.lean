/-
  Of every number: the law FnExactTurnOrder answers true: impl's TurnOrder answers as spec's does, nothing that lay has turned. No condition.
-/
import Derived.Test.YtnlbcfblfjcfnaaShell
import Derived.Test.YtnlbcfblfjcfnaaExactTurnA
namespace Go.Proofs.Ytnlbcfblfjcfnaa.fnExactTurnOrder
open Go.ChangeShapes Go.WideShapes Go.ChangeAt Go.RowKit Go.Proofs.Ytnlbcfblfjcfnaa
set_option linter.unusedVariables false
set_option linter.unusedSimpArgs false

set_option maxRecDepth 100000 in
theorem lifted (os : Os) (started : os.Started) (H : Type) (enc : TypeId × Value → H) :
    ReturnsInHanded {} Try.checked os 11 .any (Rows.fnExactTurnOrderSpec.pre6 enc Try.prog Try.f11 Rows.fnExactTurnOrderRow.domain false) (Rows.fnExactTurnOrderSpec.post enc Try.prog Try.f11 false true false false) := by
  refine returnsInHanded_of_change (C := Try.checked) own started (by kernel_rfl) Try.func11
    (ChangeSpec.witness6 (enc := enc) (C := Try.checked) false ⟨#[], #[.int .i64 0], []⟩ 8 (by kernel_rfl) (by kernel_rfl) (by kernel_rfl) (by kernel_rfl)) ?_
  intro W base args ds gs before hval hW _ _
  exact int_step Try.params11 (by kernel_rfl) rfl (fun _ _ => rfl) (fun a w _ _ => (exactOrder_walk a w).mono fun _ _ h => fine_drewN h) W base args ds gs before hval hW

theorem proved : Rows.FnExactTurnOrderSaid :=
  OpenClaim.holds_of_wide 11 Try.f11 rfl rfl rfl rfl rfl rfl rfl ⟨rfl, rfl, rfl, rfl, rfl⟩ rfl rfl rfl rfl rfl (by kernel_rfl) Try.func11 (by kernel_rfl)
    (of_decide_eq_true (by kernel_rfl)) (by unfold Func.isWrapper; first | (rw [if_pos (by decide +kernel)]; kernel_rfl) | (rw [if_neg (by decide +kernel)]; exact ⟨rfl, rfl⟩))
    (fun os started H enc _ => lifted os started H enc)
#print axioms proved
end Go.Proofs.Ytnlbcfblfjcfnaa.fnExactTurnOrder
