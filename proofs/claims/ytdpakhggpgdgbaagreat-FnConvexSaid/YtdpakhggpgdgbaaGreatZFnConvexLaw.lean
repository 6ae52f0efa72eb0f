/-
  Of every code the law FnConvex is true: both sides answer alike; a convex polygon turned round is convex, and its area has the sign of its bends.
-/
import Derived.Test.YtdpakhggpgdgbaaGreatM00
import Derived.Test.YtdpakhggpgdgbaaGreatZLawFnConvex
namespace Go.Proofs.YtdpakhggpgdgbaaGreat.fnConvex
open Go.ChangeShapes Go.WideShapes Go.ChangeAt Go.RowKit Go.Proofs.YtdpakhggpgdgbaaGreat
set_option linter.unusedVariables false
set_option linter.unusedSimpArgs false

set_option maxRecDepth 100000 in
theorem lifted (os : Os) (started : os.Started) (H : Type) (enc : TypeId × Value → H) :
    ReturnsInHanded {} Tryz.checked os 3 .any (Rows.fnConvexSpec.pre6 enc Tryz.prog Tryz.f3 Rows.fnConvexRow.domain false) (Rows.fnConvexSpec.post enc Tryz.prog Tryz.f3 false true false false) := by
  refine returnsInHanded_of_change (C := Tryz.checked) own started (by kernel_rfl) Tryz.func3
    (ChangeSpec.witness6 (enc := enc) (C := Tryz.checked) false ⟨#[], #[.slice none 0 0], []⟩ 8 (by kernel_rfl) (by kernel_rfl) (by kernel_rfl) (by kernel_rfl)) ?_
  intro W base args ds gs before hval hW _ _
  obtain ⟨v, d, rfl, rfl, hc⟩ := code_open (base := base) Tryz.params3 hval hW
  obtain rfl : gs = [] := by
    obtain ⟨p, q, _, hV, _⟩ := hW
    exact (trodVars_none hV).1
  exact any_step (by kernel_rfl) (by kernel_rfl) (by kernel_rfl) rfl hW (lawFnConvex_walk v W hc)

theorem closed : joinedFacts Tryz.prog 3 Tryz.f3 Rows.fnConvexSpec Rows.fnConvexRow = true := by
  unfold joinedFacts
  simp only [may_is, lifts_is, make_is]
  kernel_rfl

theorem proved : Rows.FnConvexSaid :=
  OpenClaim.holds_of_wide 3 Tryz.f3 rfl rfl rfl rfl rfl rfl rfl ⟨rfl, rfl, rfl, rfl, rfl⟩ rfl rfl rfl rfl rfl (by kernel_rfl) Tryz.func3 closed
    (of_decide_eq_true (by kernel_rfl)) (by unfold Func.isWrapper; first | (rw [if_pos (by decide +kernel)]; kernel_rfl) | (rw [if_neg (by decide +kernel)]; exact ⟨rfl, rfl⟩))
    (fun os started H enc _ => lifted os started H enc)
#print axioms proved
end Go.Proofs.YtdpakhggpgdgbaaGreat.fnConvex
