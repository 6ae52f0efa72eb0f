/-
  The statement FnExactRingRounds: both sides answer alike, for every argument; what is answered is its own, and no argument is written into.
-/
import Derived.Test.YtbdhbkedeglagaaM00
import Derived.Test.YtbdhbkedeglagaaM05
import Derived.Test.YtbdhbkedeglagaaM25
namespace Go.Proofs.Ytbdhbkedeglagaa.fnExactRingRounds
open Go.ChangeShapes Go.WideShapes Go.ChangeAt Go.RowKit Go.Proofs.Ytbdhbkedeglagaa
set_option linter.unusedVariables false
set_option linter.unusedSimpArgs false

set_option maxRecDepth 100000 in
theorem lifted (os : Os) (started : os.Started) (H : Type) (enc : TypeId × Value → H) :
    ReturnsInHanded {} Try.checked os 8 .any (Rows.fnExactRingRoundsSpec.pre6 enc Try.prog Try.f8 Rows.fnExactRingRoundsRow.domain false) (Rows.fnExactRingRoundsSpec.post enc Try.prog Try.f8 false true false false) := by
  refine returnsInHanded_of_change (C := Try.checked) own started (by kernel_rfl) Try.func8
    (ChangeSpec.witness6 (enc := enc) (C := Try.checked) false ⟨#[], #[.int .i64 0, .int .i64 0, .bool false], []⟩ 8 (by kernel_rfl) (by kernel_rfl) (by kernel_rfl) (by kernel_rfl)) ?_
  intro W base args ds gs before hval hW _ _
  obtain ⟨a, b, c, d, d2, d3, rfl, rfl⟩ := iib_open (base := base) Try.params8 hval hW
  obtain rfl : gs = [] := by
    obtain ⟨p, q, _, hV, _⟩ := hW
    exact (trodVars_none hV).1
  exact any_step (by kernel_rfl) (by kernel_rfl) (by kernel_rfl) rfl hW (exactRingRounds_walk a b c W)

theorem closed : joinedFacts Try.prog 8 Try.f8 Rows.fnExactRingRoundsSpec Rows.fnExactRingRoundsRow = true := by
  unfold joinedFacts
  simp only [may_is, lifts_is, make_is]
  kernel_rfl

theorem proved : Rows.FnExactRingRoundsSaid :=
  OpenClaim.holds_of_wide 8 Try.f8 rfl rfl rfl rfl rfl rfl rfl ⟨rfl, rfl, rfl, rfl, rfl⟩ rfl rfl rfl rfl rfl (by kernel_rfl) Try.func8 closed
    (of_decide_eq_true (by kernel_rfl)) (by unfold Func.isWrapper; first | (rw [if_pos (by decide +kernel)]; kernel_rfl) | (rw [if_neg (by decide +kernel)]; exact ⟨rfl, rfl⟩))
    (fun os started H enc _ => lifted os started H enc)
#print axioms proved
end Go.Proofs.Ytbdhbkedeglagaa.fnExactRingRounds
