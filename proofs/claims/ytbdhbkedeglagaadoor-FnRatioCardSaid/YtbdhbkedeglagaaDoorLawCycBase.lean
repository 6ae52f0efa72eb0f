/-
  What the walks of the laws of exact points share.
-/
import Derived.Test.YtbdhbkedeglagaaDoorDrawCyc2
namespace Go.Proofs.YtbdhbkedeglagaaDoor
set_option maxRecDepth 20000
open Go.ChangeShapes Go.WideShapes Go.ChangeAt Go.RowKit
set_option linter.unusedVariables false
set_option linter.unusedSimpArgs false

theorem code_length {w : World} {v : Value} (h : CodeAt w v) : ∃ a n c, v = .slice a n c ∧ n ≤ 9223372036854775807 := by
  rcases h with ⟨a, rfl⟩ | ⟨b, off, len, cap, zs, rfl, _, h1, h2, _⟩
  · exact ⟨a, 0, 0, rfl, by omega⟩
  · exact ⟨_, _, _, rfl, by unfold maxLen at h2; omega⟩
theorem ans_t {v : Bool} {c : Nat → Int} (h : (v && okc c) = true) : ans v c = .tuple #[.agg (vec 8 c), .bool true] := by simp [ans, h]
theorem ans_f {v : Bool} {c : Nat → Int} (h : (v && okc c) = false) : ans v c = .tuple #[.agg (vec 8 nul), .bool false] := by simp [ans, h]
theorem ans_is {v : Bool} {c d : Nat → Int} (h : Eight c d) (hv : (v && okc d) = true) : ans v c = .tuple #[.agg (vec 8 d), .bool true] := by rw [ans_same v h]; exact ans_t hv
theorem okc_nul : okc nul = true := by decide
theorem okc_scl {a : Nat → Int} (h : okc a = true) : okc (scl (-1) a) = true := inR_okc fun j hj => by have := okc_inR h j hj; simp only [scl]; omega
theorem okc_root {t : Nat} (ht : t ≤ 23) : okc (trn one t) = true := inR_okc fun j hj => by have := (root_facts t ht j hj).1; omega
theorem okc_mroot {t : Nat} (ht : t ≤ 23) : okc (mir (trn one t)) = true := inR_okc fun j hj => by have := (root_facts t ht j hj).2.1; omega
theorem okc_one : okc one = true := by decide
theorem rl_true {a : Nat → Int} (h : Eight (mir a) a) : rl a = true := eqv_true h
theorem rl_same {a : Nat → Int} (h : rl a = true) : Eight (mir a) a := eqv_same h
theorem mir_same {a b : Nat → Int} (h : Eight a b) : Eight (mir a) (mir b) := by
  have h0 := h 0 (by omega); have h1 := h 1 (by omega); have h2 := h 2 (by omega); have h3 := h 3 (by omega); have h4 := h 4 (by omega); have h5 := h 5 (by omega); have h6 := h 6 (by omega); have h7 := h 7 (by omega)
  refine eight_cases ?_ ?_ ?_ ?_ ?_ ?_ ?_ ?_ <;> simp [mir, *]
theorem prd_both {a : Nat → Int} (h : Eight (mir a) a) : Eight (mir (prd a a)) (prd a a) := fun j hj =>
  (mir_prd a a j hj).trans ((prd_same h j hj).trans ((prd_comm a (mir a) j hj).trans (prd_same h j hj)))
end Go.Proofs.YtbdhbkedeglagaaDoor
