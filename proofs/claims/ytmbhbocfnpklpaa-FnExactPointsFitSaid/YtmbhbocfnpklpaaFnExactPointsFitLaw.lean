/-
  The statement FnExactPointsFit: both sides answer alike, for every argument.
-/
import Derived.Test.YtmbhbocfnpklpaaStep
import Derived.Test.YtmbhbocfnpklpaaWideF
import Derived.Test.YtmbhbocfnpklpaaCycOpen
namespace Go.Proofs.Ytmbhbocfnpklpaa.fnExactPointsFit
open Go.ChangeShapes Go.WideShapes Go.ChangeAt Go.RowKit Go.Proofs.Ytmbhbocfnpklpaa
set_option linter.unusedVariables false
set_option linter.unusedSimpArgs false

set_option maxRecDepth 100000 in
theorem lifted (os : Os) (started : os.Started) (H : Type) (enc : TypeId × Value → H) :
    ReturnsInHanded {} Try.checked os 14 .any (Rows.fnExactPointsFitSpec.pre6 enc Try.prog Try.f14 Rows.fnExactPointsFitRow.domain false) (Rows.fnExactPointsFitSpec.post enc Try.prog Try.f14 false true false false) := by
  refine returnsInHanded_of_change (C := Try.checked) own started (by kernel_rfl) Try.func14
    (ChangeSpec.witness6 (enc := enc) (C := Try.checked) false ⟨#[], #[.agg #[.int .i64 0, .int .i64 0, .int .i64 0, .int .i64 0, .int .i64 0, .int .i64 0, .int .i64 0, .int .i64 0]], []⟩ 8 (by kernel_rfl) (by kernel_rfl) (by kernel_rfl) (by kernel_rfl)) ?_
  intro W base args ds gs before hval hW _ _
  obtain ⟨a, d, rfl, rfl⟩ := cyc_open (base := base) Try.params14 hval hW
  obtain rfl : gs = [] := by
    obtain ⟨p, q, _, hV, _⟩ := hW
    exact (trodVars_none hV).1
  exact any_step (by kernel_rfl) (by kernel_rfl) (by kernel_rfl) rfl hW (exactPointsFit_walk a W)

theorem proved : Rows.FnExactPointsFitSaid :=
  OpenClaim.holds_of_wide 14 Try.f14 rfl rfl rfl rfl rfl rfl rfl ⟨rfl, rfl, rfl, rfl, rfl⟩ rfl rfl rfl rfl rfl (by kernel_rfl) Try.func14 (by kernel_rfl)
    (of_decide_eq_true (by kernel_rfl)) (by unfold Func.isWrapper; first | (rw [if_pos (by decide +kernel)]; kernel_rfl) | (rw [if_neg (by decide +kernel)]; exact ⟨rfl, rfl⟩))
    (fun os started H enc _ => lifted os started H enc)
#print axioms proved
end Go.Proofs.Ytmbhbocfnpklpaa.fnExactPointsFit
