/-
  The statement FnExactMovesPath: both sides answer alike, for every argument; what is answered is its own, and no argument is written into.
-/
import Derived.Test.YtnidiikcnplebaaM04
import Derived.Test.YtnidiikcnplebaaM14
import Derived.Test.YtnidiikcnplebaaExactMovesPath
namespace Go.Proofs.Ytnidiikcnplebaa.fnExactMovesPath
open Go.ChangeShapes Go.WideShapes Go.ChangeAt Go.RowKit Go.Proofs.Ytnidiikcnplebaa
set_option linter.unusedVariables false
set_option linter.unusedSimpArgs false

set_option maxRecDepth 100000 in
theorem lifted (os : Os) (started : os.Started) (H : Type) (enc : TypeId × Value → H) :
    ReturnsInHanded {} Try.checked os 13 .any (Rows.fnExactMovesPathSpec.pre6 enc Try.prog Try.f13 Rows.fnExactMovesPathRow.domain false) (Rows.fnExactMovesPathSpec.post enc Try.prog Try.f13 false true false false) := by
  refine returnsInHanded_of_change (C := Try.checked) own started (by kernel_rfl) Try.func13
    (ChangeSpec.witness6 (enc := enc) (C := Try.checked) false ⟨#[], #[.slice none 0 0, .int .i64 0], []⟩ 8 (by kernel_rfl) (by kernel_rfl) (by kernel_rfl) (by kernel_rfl)) ?_
  intro W base args ds gs before hval hW _ _
  obtain ⟨v, n, ws, d, d2, rfl, rfl, hD, -, -⟩ := movesint_open (base := base) Try.params13 hval hW
  obtain rfl : gs = [] := by
    obtain ⟨p, q, _, hV, _⟩ := hW
    exact (trodVars_none hV).1
  exact any_step (by kernel_rfl) (by kernel_rfl) (by kernel_rfl) rfl hW (exactMovesPath_walk v n ws W hD)

theorem closed : joinedFacts Try.prog 13 Try.f13 Rows.fnExactMovesPathSpec Rows.fnExactMovesPathRow = true := by
  unfold joinedFacts
  simp only [may_is, lifts_is, make_is]
  kernel_rfl

theorem proved : Rows.FnExactMovesPathSaid :=
  OpenClaim.holds_of_wide 13 Try.f13 rfl rfl rfl rfl rfl rfl rfl ⟨rfl, rfl, rfl, rfl, rfl⟩ rfl rfl rfl rfl rfl (by kernel_rfl) Try.func13 closed
    (of_decide_eq_true (by kernel_rfl)) (by unfold Func.isWrapper; first | (rw [if_pos (by decide +kernel)]; kernel_rfl) | (rw [if_neg (by decide +kernel)]; exact ⟨rfl, rfl⟩))
    (fun os started H enc _ => lifted os started H enc)
#print axioms proved
end Go.Proofs.Ytnidiikcnplebaa.fnExactMovesPath
