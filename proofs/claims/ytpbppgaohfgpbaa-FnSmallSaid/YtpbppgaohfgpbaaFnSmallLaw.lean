/-
  Of every code the law FnSmall is true: both sides answer alike; a part is subnormal where it is told, ahead of rest.
-/
import Derived.Test.YtpbppgaohfgpbaaM00
import Derived.Test.YtpbppgaohfgpbaaLawFnSmall
namespace Go.Proofs.Ytpbppgaohfgpbaa.fnSmall
open Go.ChangeShapes Go.WideShapes Go.ChangeAt Go.RowKit Go.Proofs.Ytpbppgaohfgpbaa
set_option linter.unusedVariables false
set_option linter.unusedSimpArgs false

set_option maxRecDepth 100000 in
theorem lifted (os : Os) (started : os.Started) (H : Type) (enc : TypeId × Value → H) :
    ReturnsInHanded {} Try.checked os 7 .any (Rows.fnSmallSpec.pre6 enc Try.prog Try.f7 Rows.fnSmallRow.domain false) (Rows.fnSmallSpec.post enc Try.prog Try.f7 false true false false) := by
  refine returnsInHanded_of_change (C := Try.checked) own started (by kernel_rfl) Try.func7
    (ChangeSpec.witness6 (enc := enc) (C := Try.checked) false ⟨#[], #[.slice none 0 0], []⟩ 8 (by kernel_rfl) (by kernel_rfl) (by kernel_rfl) (by kernel_rfl)) ?_
  intro W base args ds gs before hval hW _ _
  obtain ⟨v, d, rfl, rfl, hc⟩ := code_open (base := base) Try.params7 hval hW
  obtain rfl : gs = [] := by
    obtain ⟨p, q, _, hV, _⟩ := hW
    exact (trodVars_none hV).1
  exact any_step (by kernel_rfl) (by kernel_rfl) (by kernel_rfl) rfl hW (lawFnSmall_walk v W hc)

theorem closed : joinedFacts Try.prog 7 Try.f7 Rows.fnSmallSpec Rows.fnSmallRow = true := by
  unfold joinedFacts
  simp only [may_is, lifts_is, make_is]
  kernel_rfl

theorem proved : Rows.FnSmallSaid :=
  OpenClaim.holds_of_wide_leaving 7 Try.f7 rfl rfl rfl rfl rfl rfl rfl ⟨rfl, rfl, rfl, rfl, rfl⟩ rfl rfl rfl rfl rfl (by kernel_rfl) Try.func7 closed
    (of_decide_eq_true (by kernel_rfl)) (by unfold Func.isWrapper; first | (rw [if_pos (by decide +kernel)]; kernel_rfl) | (rw [if_neg (by decide +kernel)]; exact ⟨rfl, rfl⟩))
    (fun os started H enc _ => leaving_of_alone (lifted os started H enc))
#print axioms proved
end Go.Proofs.Ytpbppgaohfgpbaa.fnSmall
