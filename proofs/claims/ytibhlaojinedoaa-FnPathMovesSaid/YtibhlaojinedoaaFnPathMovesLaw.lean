/-
  Of every code the law FnPathMoves is true: both sides answer alike; the moves reach the last point.
-/
import Derived.Test.YtibhlaojinedoaaM00
import Derived.Test.YtibhlaojinedoaaLawFnPathMoves
namespace Go.Proofs.Ytibhlaojinedoaa.fnPathMoves
open Go.ChangeShapes Go.WideShapes Go.ChangeAt Go.RowKit Go.Proofs.Ytibhlaojinedoaa
set_option linter.unusedVariables false
set_option linter.unusedSimpArgs false

set_option maxRecDepth 100000 in
theorem lifted (os : Os) (started : os.Started) (H : Type) (enc : TypeId × Value → H) :
    ReturnsInHanded {} Try.checked os 4 .any (Rows.fnPathMovesSpec.pre6 enc Try.prog Try.f4 Rows.fnPathMovesRow.domain false) (Rows.fnPathMovesSpec.post enc Try.prog Try.f4 false true false false) := by
  refine returnsInHanded_of_change (C := Try.checked) own started (by kernel_rfl) Try.func4
    (ChangeSpec.witness6 (enc := enc) (C := Try.checked) false ⟨#[], #[.slice none 0 0], []⟩ 8 (by kernel_rfl) (by kernel_rfl) (by kernel_rfl) (by kernel_rfl)) ?_
  intro W base args ds gs before hval hW _ _
  obtain ⟨v, d, rfl, rfl, hc⟩ := code_open (base := base) Try.params4 hval hW
  obtain rfl : gs = [] := by
    obtain ⟨p, q, _, hV, _⟩ := hW
    exact (trodVars_none hV).1
  exact any_step (by kernel_rfl) (by kernel_rfl) (by kernel_rfl) rfl hW (lawFnPathMoves_walk v W hc)

theorem closed : joinedFacts Try.prog 4 Try.f4 Rows.fnPathMovesSpec Rows.fnPathMovesRow = true := by
  unfold joinedFacts
  simp only [may_is, lifts_is, make_is]
  kernel_rfl

theorem proved : Rows.FnPathMovesSaid :=
  OpenClaim.holds_of_wide 4 Try.f4 rfl rfl rfl rfl rfl rfl rfl ⟨rfl, rfl, rfl, rfl, rfl⟩ rfl rfl rfl rfl rfl (by kernel_rfl) Try.func4 closed
    (of_decide_eq_true (by kernel_rfl)) (by unfold Func.isWrapper; first | (rw [if_pos (by decide +kernel)]; kernel_rfl) | (rw [if_neg (by decide +kernel)]; exact ⟨rfl, rfl⟩))
    (fun os started H enc _ => lifted os started H enc)
#print axioms proved
end Go.Proofs.Ytibhlaojinedoaa.fnPathMoves
