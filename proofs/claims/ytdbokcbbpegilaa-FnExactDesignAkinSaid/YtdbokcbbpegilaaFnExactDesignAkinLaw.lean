/-
  The statement FnExactDesignAkin: both sides answer alike, for every argument; what is answered is its own, and no argument is written into.
-/
import Derived.Test.YtdbokcbbpegilaaM06
import Derived.Test.YtdbokcbbpegilaaM08
import Derived.Test.YtdbokcbbpegilaaExactDesignAkin
namespace Go.Proofs.Ytdbokcbbpegilaa.fnExactDesignAkin
open Go.ChangeShapes Go.WideShapes Go.ChangeAt Go.RowKit Go.Proofs.Ytdbokcbbpegilaa
set_option linter.unusedVariables false
set_option linter.unusedSimpArgs false

set_option maxRecDepth 100000 in
theorem lifted (os : Os) (started : os.Started) (H : Type) (enc : TypeId × Value → H) :
    ReturnsInHanded {} Try.checked os 13 .any (Rows.fnExactDesignAkinSpec.pre6 enc Try.prog Try.f13 Rows.fnExactDesignAkinRow.domain false) (Rows.fnExactDesignAkinSpec.post enc Try.prog Try.f13 false true false false) := by
  refine returnsInHanded_of_change (C := Try.checked) own started (by kernel_rfl) Try.func13
    (ChangeSpec.witness6 (enc := enc) (C := Try.checked) false ⟨#[], #[.slice none 0 0, .slice none 0 0], []⟩ 8 (by kernel_rfl) (by kernel_rfl) (by kernel_rfl) (by kernel_rfl)) ?_
  intro W base args ds gs before hval hW _ _
  obtain ⟨v, v2, ws, ws2, d, d2, rfl, rfl, hD, hD2⟩ := wheels2_open (base := base) Try.params13 hval hW
  obtain rfl : gs = [] := by
    obtain ⟨p, q, _, hV, _⟩ := hW
    exact (trodVars_none hV).1
  exact any_step (by kernel_rfl) (by kernel_rfl) (by kernel_rfl) rfl hW (exactDesignAkin_walk v v2 ws ws2 W hD hD2)

theorem closed : joinedFacts Try.prog 13 Try.f13 Rows.fnExactDesignAkinSpec Rows.fnExactDesignAkinRow = true := by
  unfold joinedFacts
  simp only [may_is, lifts_is, make_is]
  kernel_rfl

theorem proved : Rows.FnExactDesignAkinSaid :=
  OpenClaim.holds_of_wide 13 Try.f13 rfl rfl rfl rfl rfl rfl rfl ⟨rfl, rfl, rfl, rfl, rfl⟩ rfl rfl rfl rfl rfl (by kernel_rfl) Try.func13 closed
    (of_decide_eq_true (by kernel_rfl)) (by unfold Func.isWrapper; first | (rw [if_pos (by decide +kernel)]; kernel_rfl) | (rw [if_neg (by decide +kernel)]; exact ⟨rfl, rfl⟩))
    (fun os started H enc _ => lifted os started H enc)
#print axioms proved
end Go.Proofs.Ytdbokcbbpegilaa.fnExactDesignAkin
